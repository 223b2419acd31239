package world_test

import (
	"fmt"
	"math"
	"slices"
	"strings"
	"testing"

	"coffer/api"
	"coffer/backup"
	"coffer/bucket"
	"coffer/disk"
	"coffer/world"
)

// kindNumbers are the chapter's numbers of the kinds.
var kindNumbers = []int{
	world.Make, world.Drop, world.Put, world.Delete, world.Remove, world.Get, world.GetVersion, world.List, world.Versions, world.Names,
	world.Export, world.Since, world.Import, world.Apply, world.ImportShelf, world.ApplyShelf, world.Fall, world.Crash,
}

func TestKindNumbers(t *testing.T) {
	for i, kind := range kindNumbers {
		if kind != i+1 {
			t.Errorf("P21.1: the kind that is to be %d is %d", i+1, kind)
		}
	}
}

// TestExamples: the chapter's.
func TestExamples(t *testing.T) {
	w := begun(t, 8192, 2048)
	ok := func(s world.Step, want world.Told) {
		t.Helper()
		if got := w.Do(s); !toldSame(got, want) {
			t.Errorf("P21.1: %s: %s, want %s", said(s), toldAs(got), toldAs(want))
		}
	}
	a := packed(of(2, api.Version{Key: "k", Seq: 1, Data: "one"}), 0)
	ok(world.Step{Kind: world.Make, Bucket: "a"}, world.Told{})
	ok(world.Step{Kind: world.Put, Bucket: "a", Key: "k", Data: "one"}, world.Told{Seq: 1})
	ok(world.Step{Kind: world.Export, Bucket: "a"}, world.Told{Bytes: a})
	if l := w.Shelf(); !slices.Equal(l, []string{a}) {
		t.Errorf("P21.1: the shelf is %q", l)
	}
	ok(world.Step{Kind: world.ImportShelf, Bucket: "b", N: 0}, world.Told{})
	ok(world.Step{Kind: world.Drop, Bucket: "a"}, world.Told{})
	ok(world.Step{Kind: world.Names}, world.Told{Names: []string{"b"}})

	ok(world.Step{Kind: world.Fall, N: 1}, world.Told{})
	ok(world.Step{Kind: world.Put, Bucket: "b", Key: "k", Data: "two"}, world.Told{Err: 9})
	if w.Up() {
		t.Errorf("P21.1: it is up")
	}
	ok(world.Step{Kind: world.Get, Bucket: "b", Key: "k"}, world.Told{Err: 9})
	ok(world.Step{Kind: world.Crash}, world.Told{})
	ok(world.Step{Kind: world.Get, Bucket: "b", Key: "k"}, world.Told{Version: api.Version{Key: "k", Seq: 1, Data: "one"}})

	ok(world.Step{Kind: world.ImportShelf, Bucket: "c", N: 7}, world.Told{Err: 1})
	ok(world.Step{Kind: 0}, world.Told{Err: 1})
	ok(world.Step{Kind: 19}, world.Told{Err: 1})
	if w, err := world.New(2, 2); w != nil || err == 0 {
		t.Errorf("P21.1: New(2, 2): %v, %d", w, err)
	}
}

// TestExamplesOfTheWhole: those of DOC.md, as far as steps can ask for them.
func TestExamplesOfTheWhole(t *testing.T) {
	w := begun(t, 8192, 2048)
	ok := func(s world.Step, want world.Told) world.Told {
		t.Helper()
		got := w.Do(s)
		if !toldSame(got, want) {
			t.Errorf("%s: %s, want %s", said(s), toldAs(got), toldAs(want))
		}
		return got
	}
	two := api.Version{Key: "k", Seq: 2, Data: "two"}
	put := func(key, data string) world.Step {
		return world.Step{Kind: world.Put, Bucket: "a", Key: key, Data: data}
	}
	get := world.Step{Kind: world.Get, Bucket: "a", Key: "k"}
	ok(put("k", "x"), world.Told{Err: 70})
	ok(world.Step{Kind: world.Import, Bucket: "a", Data: "x"}, world.Told{Err: 90})
	ok(world.Step{Kind: world.Make, Bucket: "A"}, world.Told{Err: 60})

	ok(world.Step{Kind: world.Make, Bucket: "a"}, world.Told{})
	ok(put("k", "one"), world.Told{Seq: 1})
	ok(put("k", "two"), world.Told{Seq: 2})
	ok(get, world.Told{Version: two})
	ok(world.Step{Kind: world.Remove, Bucket: "a", Key: "k", Seq: 9}, world.Told{Err: 72})
	ok(world.Step{Kind: world.Get, Bucket: "a", Key: "j"}, world.Told{Err: 72})
	ok(put("", "x"), world.Told{Err: 61})

	whole := of(3, api.Version{Key: "k", Seq: 1, Data: "one"}, two)
	ok(world.Step{Kind: world.Export, Bucket: "a"}, world.Told{Bytes: packed(whole, 0)})
	ok(world.Step{Kind: world.ImportShelf, Bucket: "b", N: 0}, world.Told{})
	ok(world.Step{Kind: world.Export, Bucket: "b"}, world.Told{Bytes: packed(whole, 0)})
	ok(put("j", ""), world.Told{Seq: 3})
	ok(world.Step{Kind: world.Since, Bucket: "a", Seq: 3}, world.Told{Bytes: packed(of(4, api.Version{Key: "j", Seq: 3}), 3)})
	ok(world.Step{Kind: world.ApplyShelf, Bucket: "b", N: 2}, world.Told{})
	if got, err := w.Store().Value("b"); err != 0 || !sameValue(got, of(4, api.Version{Key: "j", Seq: 3}, whole.Versions[0], two)) {
		t.Errorf("T5: %+v, %d", got, err)
	}
	ok(world.Step{Kind: world.ApplyShelf, Bucket: "b", N: 2}, world.Told{Err: 91})

	ok(world.Step{Kind: world.Delete, Bucket: "a", Key: "k"}, world.Told{Seq: 4})
	ok(get, world.Told{Err: 73})
	ok(world.Step{Kind: world.List, Bucket: "a", Key: "k", N: 9}, world.Told{})
	ok(world.Step{Kind: world.Remove, Bucket: "a", Key: "k", Seq: 4}, world.Told{})
	ok(get, world.Told{Version: two})

	w = begun(t, 8192, 2048)
	ok(world.Step{Kind: world.Make, Bucket: "a"}, world.Told{})
	ok(world.Step{Kind: world.Fall, N: 1}, world.Told{})
	ok(put("k", "x"), world.Told{Err: 9})
	ok(get, world.Told{Err: 9})
	ok(world.Step{Kind: world.Crash}, world.Told{})
	ok(get, world.Told{Err: 72})
}

// TestNew: disks and logs of all small sizes, and others that are refused: the
// error is that of disk's New or of backup's Open, and there is no world; else
// it is up, and new.
func TestNew(t *testing.T) {
	answered := map[api.Errno]int{}
	tries := func(sectors, size int) {
		t.Helper()
		d, want := disk.New(sectors)
		if want == api.OK {
			_, want = backup.Open(d, size)
		}
		w, err := world.New(sectors, size)
		if err != want || (w == nil) != (err != api.OK) {
			t.Fatalf("P21.1: New(%d, %d): %v, %d, want %d", sectors, size, w, err, want)
		}
		answered[err]++
		if err != api.OK {
			return
		}
		holds(t, "P21.1: a new world", w, model{})
		if got := w.Disk(); got == nil || got.Sectors() != sectors || got.Off() || got.Pending() != 0 || got == d {
			t.Fatalf("P21.1: New(%d, %d): the disk is %v", sectors, size, got)
		}
		if w.Store() != w.Store() || w.Disk() != w.Disk() {
			t.Fatalf("P21.1: New(%d, %d): two looks see two things", sectors, size)
		}
	}
	for size := -2; size <= 22; size++ {
		for sectors := -2; sectors <= 22; sectors++ {
			tries(sectors, size)
		}
	}
	for _, n := range []int{math.MinInt, math.MinInt32, 2048, 8191, 8192, 8193, math.MaxInt32, math.MaxInt} {
		for _, size := range []int{n, 2048, 4, 0} {
			tries(n, size)
			tries(8192, n)
		}
	}
	for _, err := range []api.Errno{api.OK, api.ErrArg, api.ErrSpace, api.ErrLog} {
		if answered[err] == 0 {
			t.Errorf("no New answers %d: %v", err, answered)
		}
	}
}

// someWorld has some buckets and a shelf of a whole bucket, of deltas
// that fit and that don't, and of one more whole one.
func someWorld(t *testing.T) (*world.World, model) {
	t.Helper()
	w, m := begunWith(t, 400, 200, map[string]api.Bucket{
		"a": of(9, v("j", 2), gone("j", 5), v("k", 1), v("k", 7)), "b": of(9, v("k", 1)), "empty": of(1),
	})
	for _, s := range []world.Step{
		{Kind: world.Export, Bucket: "a"},
		{Kind: world.Since, Bucket: "a", Seq: 3},
		{Kind: world.Since, Bucket: "a", Seq: 9},
		{Kind: world.Since, Bucket: "empty", Seq: 1},
		{Kind: world.Export, Bucket: "empty"},
	} {
		m = answers(t, "some world", w, m, s)
	}
	return w, m
}

// named is a step with those fields alone that its kind names, by the chapter's
// table; the others are as in another one.
func named(s, others world.Step) world.Step {
	is := others
	is.Kind = s.Kind
	has := func(kinds ...int) bool { return isOf(s.Kind, kinds...) }
	if !has(world.Names, world.Fall, world.Crash) {
		is.Bucket = s.Bucket
	}
	if has(world.Put, world.Delete, world.Remove, world.Get, world.GetVersion, world.List, world.Versions) {
		is.Key = s.Key
	}
	if has(world.Put, world.Import, world.Apply) {
		is.Data = s.Data
	}
	if has(world.Put) {
		is.Meta = s.Meta
	}
	if has(world.Remove, world.GetVersion, world.Since) {
		is.Seq = s.Seq
	}
	if has(world.List, world.Versions, world.ImportShelf, world.ApplyShelf, world.Fall, world.Crash) {
		is.N = s.N
	}
	if has(world.Crash) {
		is.Kept = s.Kept
	}
	return is
}

// kindsTried are steps of all kinds, those that go first of each kind.
func kindsTried() []world.Step {
	whole, delta := packed(of(4, v("k", 2)), 0), packed(of(12, v("k", 10)), 9)
	return []world.Step{
		{Kind: world.Make, Bucket: "new"}, {Kind: world.Make, Bucket: "a"}, {Kind: world.Make, Bucket: "A"},
		{Kind: world.Drop, Bucket: "a"}, {Kind: world.Drop, Bucket: "new"}, {Kind: world.Drop},
		{Kind: world.Put, Bucket: "a", Key: "k", Data: "d", Meta: pairs("a", "b")}, {Kind: world.Put, Bucket: "a", Key: "k"}, {Kind: world.Put, Bucket: "a"},
		{Kind: world.Delete, Bucket: "a", Key: "k"}, {Kind: world.Delete, Bucket: "a"},
		{Kind: world.Remove, Bucket: "a", Key: "k", Seq: 7}, {Kind: world.Remove, Bucket: "a", Key: "k"},
		{Kind: world.Get, Bucket: "a", Key: "k"}, {Kind: world.Get, Bucket: "a", Key: "j"}, {Kind: world.Get, Bucket: "b"},
		{Kind: world.GetVersion, Bucket: "a", Key: "j", Seq: 5}, {Kind: world.GetVersion, Bucket: "a", Key: "k", Seq: 5},
		{Kind: world.List, Bucket: "a", N: 9}, {Kind: world.List, Bucket: "a", Key: "k", N: 9}, {Kind: world.List, Bucket: "a"}, {Kind: world.List},
		{Kind: world.Versions, Bucket: "a", N: 9}, {Kind: world.Versions, Bucket: "a", Key: "k", N: 1}, {Kind: world.Versions, Bucket: "a", N: -1},
		{Kind: world.Names},
		{Kind: world.Export, Bucket: "a"}, {Kind: world.Export, Bucket: "new"},
		{Kind: world.Since, Bucket: "a", Seq: 5}, {Kind: world.Since, Bucket: "a"},
		{Kind: world.Import, Bucket: "new", Data: whole}, {Kind: world.Import, Bucket: "new", Data: delta}, {Kind: world.Import, Bucket: "a"},
		{Kind: world.Apply, Bucket: "a", Data: delta}, {Kind: world.Apply, Bucket: "a", Data: whole}, {Kind: world.Apply, Bucket: "a"},
		{Kind: world.ImportShelf, Bucket: "new", N: 4}, {Kind: world.ImportShelf, Bucket: "new", N: 1}, {Kind: world.ImportShelf, Bucket: "new", N: 5},
		{Kind: world.ApplyShelf, Bucket: "a", N: 2}, {Kind: world.ApplyShelf, Bucket: "b", N: 1}, {Kind: world.ApplyShelf, Bucket: "b", N: -1},
		{Kind: world.Fall}, {Kind: world.Fall, N: 9},
		{Kind: world.Crash}, {Kind: world.Crash, N: 9, Kept: []int{0, 1}},
	}
}

// TestKinds: each kind tells what the chapter says, and the fields that it
// doesn't name are not looked at, whatever stands there.
func TestKinds(t *testing.T) {
	others := []world.Step{
		{},
		{Bucket: "a", Key: "k", Data: "d", Meta: pairs("a", "b"), Seq: 7, N: 1, Kept: []int{0}},
		{Bucket: "A", Key: times(33, "k"), Data: times(1<<20, "d"), Meta: pairs("b", "", "a", ""), Seq: least, N: math.MinInt, Kept: []int{-1}},
		{Bucket: times(33, "n"), Data: packed(of(1), 0), Meta: pairs("", ""), Seq: greatest, N: math.MaxInt, Kept: []int{math.MaxInt, 0, 0}},
	}
	went := map[int]bool{}
	for _, s := range kindsTried() {
		for _, other := range others {
			w, m := someWorld(t)
			full := named(s, other)
			if isOf(s.Kind, world.Fall, world.Crash) {
				alone(t, "P21.1", w, full, api.OK)
				went[s.Kind] = true
			} else {
				want, behind := m.by(s)
				if got := w.Do(full); !toldSame(got, want) {
					t.Fatalf("P21.1: %s: %s, want %s", said(full), toldAs(got), toldAs(want))
				}
				m = behind
				went[s.Kind] = went[s.Kind] || want.Err == api.OK
			}
			holds(t, "P21.1: "+said(full), w, m)
		}
	}
	for _, kind := range kindNumbers {
		if !went[kind] {
			t.Errorf("no step of kind %d goes", kind)
		}
	}
}

// TestNoKind: kinds below 1 and above 18, up and down: ErrArg ahead of all, and
// nothing else is there behind it.
func TestNoKind(t *testing.T) {
	w, m := someWorld(t)
	tries := func(what string, want func(what string)) {
		t.Helper()
		for _, kind := range []int{math.MinInt, math.MinInt32, -18, -2, -1, 0, 19, 20, 36, 99, 255, 256 + world.Make, 1<<16 + world.Crash, 1<<32 + world.Drop, math.MaxInt32, math.MaxInt} {
			for _, s := range []world.Step{
				{}, {Bucket: "a", Key: "k", Data: packed(of(1), 0), Meta: pairs("a", "b"), Seq: 1, N: 1, Kept: []int{0}}, {Bucket: "A", N: -1},
			} {
				s.Kind = kind
				alone(t, "P21.1: "+what, w, s, api.ErrArg)
			}
			want(fmt.Sprint("P21.1: behind the kind ", kind, ", ", what))
		}
	}
	tries("up", func(what string) { t.Helper(); holds(t, what, w, m) })
	m = answers(t, "the power stayed", w, m, world.Step{Kind: world.Make, Bucket: "new"})
	alone(t, "P21.1", w, world.Step{Kind: world.Fall, N: 1}, api.OK)
	// What was said of the power stands: the very next write.
	tries("to fall", func(what string) { t.Helper(); holds(t, what, w, m) })
	alone(t, "P21.1", w, world.Step{Kind: world.Drop, Bucket: "new"}, api.ErrOff)
	tries("down", func(what string) { t.Helper(); isDown(t, what, w, m.shelf) })
	alone(t, "P21.1", w, world.Step{Kind: world.Crash}, api.OK)
	tells(t, "P21.3", w, m)
}

// edges is a world that has a bucket at each limit.
func edges() map[string]api.Bucket {
	all := filled(256, 65536, 5, 1)
	all.Next = maxNext
	return map[string]api.Bucket{
		"fine":  of(9, v("j", 3), gone("j", 5), v("k", 1), v("k", 7)),
		"empty": of(1),
		"count": filled(256, 20000, 5, 1),
		"bytes": filled(70, 65536, 5, 1),
		"seq":   of(maxNext, v("k", 1), v("k", maxNext-1)),
		"all":   all,
	}
}

// TestErrors: each kind with each thing wrong, and with all others wrong too: the
// first that is named is answered, with an error nothing else is told, and
// nothing is changed.
func TestErrors(t *testing.T) {
	w, m := great(t, edges())
	for _, name := range []string{"fine", "empty", "count"} {
		m = answers(t, "errors", w, m, world.Step{Kind: world.Export, Bucket: name})
		m = answers(t, "errors", w, m, world.Step{Kind: world.Since, Bucket: name, Seq: m.values[name].Next})
	}
	told := map[api.Errno]int{}
	texts := []string{"", "x", packed(of(3, v("k", 2)), 0), packed(of(3), 1), packed(of(10, v("k", 9)), 9), packed(of(258, gone("k", 257)), 257), packed(of(999, gone("k", 100)), 71), times(1025, "d")}
	for _, kind := range asking {
		for _, name := range append(m.names(), "none", "", "Fine", "fine\x00", times(33, "n")) {
			for _, key := range []string{"k", "j", "none", "", times(33, "k")} {
				for i, text := range texts {
					s := world.Step{Kind: kind, Bucket: name, Key: key, Data: text, N: i - 1}
					s.Seq = []int64{1, 7, 9, 10, 0, maxNext, maxNext + 1, least}[i]
					if i&2 > 0 {
						s.Meta = pairs("b", "", "a", "")
					}
					want, behind := m.by(s)
					told[want.Err]++
					if isOf(kind, changes...) && want.Err == api.OK {
						continue
					}
					m = answers(t, "each error", w, m, s)
					if !m.is(behind) {
						t.Fatalf("%s changes what it looks at", said(s))
					}
				}
			}
		}
		holds(t, fmt.Sprint("R2: behind all that kind ", kind, " refused"), w, m)
	}
	for _, err := range []api.Errno{0, 1, 60, 61, 62, 63, 70, 71, 72, 73, 74, 75, 76, 90, 91} {
		if told[err] == 0 {
			t.Errorf("T6: no step is answered with %d: %v", err, told)
		}
	}
	for _, name := range []string{"g", "h"} {
		m = answers(t, "eight", w, m, world.Step{Kind: world.ImportShelf, Bucket: name})
	}
	for _, kind := range []int{world.Make, world.Import, world.ImportShelf} {
		alone(t, "T6: eight buckets", w, world.Step{Kind: kind, Bucket: "ninth", Data: packed(of(1), 0)}, api.ErrBuckets)
	}
	holds(t, "T6: eight buckets", w, m)
}

// walk does steps of all kinds without falls, and is all that was told.
func walk(t *testing.T, n, sectors, size, steps int) string {
	t.Helper()
	x := seed(n)
	w, m := begun(t, sectors, size), model{}
	var all strings.Builder
	for i := range steps {
		what := fmt.Sprintf("walk %d, step %d", n, i)
		s := x.step(m, slices.Concat(asking, changes, []int{world.Put, world.Put, world.Put, world.Delete, world.Export, world.Since, world.ApplyShelf}), 300)
		is, refused := answersForRoom(t, what, w, m, s)
		m = is
		fmt.Fprintln(&all, said(s), refused, m)
		if w.Disk().Pending() != 0 || w.Disk().Off() {
			t.Fatalf("%s: P21.3: %d writes are pending behind what was answered", what, w.Disk().Pending())
		}
		if x.below(30) == 0 {
			m = tells(t, what, w, m)
		}
	}
	tells(t, "at last", w, m)
	return all.String()
}

// TestWalks: steps of all kinds on disks of all sizes, as the chapter says.
func TestWalks(t *testing.T) {
	for n, sectors := range []int{8192, 8192, 400, 200, 100, 60, 40, 24, 16, 12} {
		walk(t, n, sectors, min(2048, sectors/2), 300)
		walk(t, n, sectors, min(9, sectors/2), 300)
	}
}

// TestTwice: the same steps in new worlds tell the same, and what runs beside
// shows nowhere.
func TestTwice(t *testing.T) {
	first := walk(t, 77, 120, 40, 250)
	for range 8 {
		t.Run("beside others", func(t *testing.T) {
			t.Parallel()
			if again := walk(t, 77, 120, 40, 250); again != first {
				t.Errorf("R4: the same steps tell another thing")
			}
		})
	}
}

// TestModel: without falls, under G, every answer is layer 15's, never for want
// of room; and all values are right.
func TestModel(t *testing.T) {
	x := seed(5)
	w, m := great(t, nil)
	for step := range 1500 {
		s := x.step(m, slices.Concat(asking, []int{world.Put, world.Put, world.Put}), 60)
		if _, behind := m.by(s); !behind.little() {
			s = world.Step{Kind: world.Drop, Bucket: one(x, m.names()...)}
		}
		m = answers(t, "T1", w, m, s)
		if step%10 == 0 {
			holds(t, "T1", w, m)
		}
	}
	for _, name := range m.names() {
		if !bucket.Right(m.values[name]) {
			t.Errorf("T6: %q isn't right", name)
		}
	}
	tells(t, "T1", w, m)
}

// TestNumbersRise: no number is told twice of a bucket, also where versions were
// removed, the power went, and the bucket came from an archive.
func TestNumbersRise(t *testing.T) {
	x := seed(6)
	w, m := begunWith(t, 600, 300, map[string]api.Bucket{"a": of(1), "b": of(40, v("k", 7))})
	last := map[string]int64{"a": 0, "b": 39}
	for range 400 {
		s := x.step(m, []int{world.Put, world.Put, world.Delete, world.Remove, world.Remove, world.Remove}, 9)
		s.Bucket = one(x, "a", "b")
		got, was := w.Do(s), last[s.Bucket]
		if got.Err == api.OK && s.Kind != world.Remove {
			if got.Seq != was+1 {
				t.Fatalf("P21.2: %s: %d, want %d", said(s), got.Seq, was+1)
			}
			last[s.Bucket] = got.Seq
		}
		if x.below(9) == 0 {
			wants(t, "P21.3: Crash", w.Do(world.Step{Kind: world.Crash}).Err, api.OK)
		}
		m = found(t, "numbers", w)
		if len(m.values[s.Bucket].Versions) > 20 {
			m = answers(t, "numbers", w, m, world.Step{Kind: world.Export, Bucket: s.Bucket})
			m = answers(t, "numbers", w, m, world.Step{Kind: world.Drop, Bucket: s.Bucket})
			m = answers(t, "numbers", w, m, world.Step{Kind: world.ImportShelf, Bucket: s.Bucket, N: len(m.shelf) - 1})
		}
	}
	if last["a"] < 50 || last["b"] < 90 {
		t.Errorf("few numbers were told: %v", last)
	}
}
