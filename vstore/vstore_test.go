package vstore_test

import (
	"fmt"
	"iter"
	"maps"
	"math"
	"slices"
	"strings"
	"testing"

	"coffer/api"
	"coffer/bucket"
	"coffer/vstore"
)

func wants(t *testing.T, what string, got, want api.Errno) {
	t.Helper()
	if got != want {
		t.Fatalf("%s: %d, want %d", what, got, want)
	}
}

func TestExamples(t *testing.T) {
	d, s := great(t, nil)
	if l := s.Names(); len(l) != 0 {
		t.Errorf("P16.1: Names of a new store: %q", l)
	}
	wants(t, "Make a", s.Make("a"), 0)
	wants(t, "Make a again", s.Make("a"), 71)
	wants(t, "Make A", s.Make("A"), 60)
	if seq, err := s.Put("a", "k", "one", nil); seq != 1 || err != 0 {
		t.Errorf("P16.1: Put: %d, %d", seq, err)
	}
	for _, s := range []*vstore.Store{s, opens(t, "P16.4", d, 2048)} {
		if v, err := s.Get("a", "k"); !same(v, api.Version{Key: "k", Seq: 1, Data: "one"}) || err != 0 {
			t.Errorf("P16.4: Get: %+v, %d", v, err)
		}
		if v, err := s.Get("b", "k"); !same(v, api.Version{}) || err != 70 {
			t.Errorf("P16.1: Get of no bucket: %+v, %d", v, err)
		}
	}
	b, err := s.Value("a")
	wants(t, "Value", err, 0)
	wants(t, "Set b", s.Set("b", b), 0)
	if got, err := s.Value("b"); !sameValue(got, of(2, api.Version{Key: "k", Seq: 1, Data: "one"})) || err != 0 {
		t.Errorf("P16.1: Value b: %+v, %d", got, err)
	}
	wants(t, "Drop a", s.Drop("a"), 0)
	if l := s.Names(); !slices.Equal(l, []string{"b"}) {
		t.Errorf("P16.1: Names: %q", l)
	}
	for size := -1; size <= 5; size++ {
		if s, err := vstore.Open(newDisk(t, 4), size); s != nil || err != api.ErrArg && err != api.ErrSpace {
			t.Errorf("P16.1: Open of 4 sectors, %d of them the log's: %v, %d", size, s, err)
		}
	}
}

// edges is a store that has a bucket at each limit.
func edges() model {
	all := filled(256, 65536, 5)
	all.Next = api.MaxSeq + 1
	return model{
		"fine":  of(9, v("j", 3), gone("j", 5), v("k", 1), v("k", 7)),
		"empty": bucket.New(),
		"count": filled(256, 20000, 5),
		"bytes": filled(70, 65536, 5),
		"seq":   of(api.MaxSeq+1, v("k", 1), v("k", api.MaxSeq)),
		"all":   all,
	}
}

// TestErrors: each call with each thing wrong, and with all others wrong too:
// the first that is named is answered, and nothing is changed.
func TestErrors(t *testing.T) {
	m := edges()
	d, s := great(t, m)
	bucketNames := append(m.names(), "none", "", "Fine", "a_b", "fine\x00", strings.Repeat("n", 33))
	for _, kind := range slices.Concat(looks, changes) {
		for _, name := range bucketNames {
			for _, key := range []string{"k", "j", "none", "", strings.Repeat("k", 33)} {
				for wrong := range 8 {
					c := call{kind: kind, name: name, key: key, seq: 1, most: 3, value: of(1)}
					if wrong&1 > 0 {
						c.data = strings.Repeat("d", 1025)
						c.seq = 2
					}
					if wrong&2 > 0 {
						c.meta = pairs(api.Pair{Name: "b"}, api.Pair{Name: "a"})
						c.seq = -c.seq
					}
					if wrong&4 > 0 {
						c.value = of(0)
						c.most = -1
					}
					on := s
					if want, _ := c.by(m); want.err == 0 && slices.Contains(changes, kind) {
						on = opens(t, "a copy", d.Copy(), 2048)
					}
					answers(t, "each error", on, m, c)
				}
			}
		}
		holds(t, "P16.2: behind all that "+kind+" refused", s, m)
	}
}

// TestFirstError: the errors and their order by number, where several apply.
func TestFirstError(t *testing.T) {
	m := edges()
	_, s := great(t, m)
	long, falling := strings.Repeat("d", 1025), pairs(api.Pair{Name: "b"}, api.Pair{Name: "a"})
	for _, one := range []struct {
		c    call
		want api.Errno
	}{
		{call{kind: "Make", name: "Fine"}, 60},
		{call{kind: "Make", name: "fine"}, 71},
		{call{kind: "Drop", name: ""}, 60},
		{call{kind: "Drop", name: "none"}, 70},
		{call{kind: "Put", name: "Fine", key: "", data: long, meta: falling}, 60},
		{call{kind: "Put", name: "none", key: "", data: long, meta: falling}, 61},
		{call{kind: "Put", name: "none", key: "k", data: long, meta: falling}, 63},
		{call{kind: "Put", name: "none", key: "k", meta: falling}, 62},
		{call{kind: "Put", name: "none", key: "k"}, 70},
		{call{kind: "Put", name: "all", key: "k"}, 74},
		{call{kind: "Put", name: "seq", key: "k"}, 74},
		{call{kind: "Put", name: "count", key: "k"}, 75},
		{call{kind: "Put", name: "bytes", key: "k"}, 76},
		{call{kind: "Delete", name: "Fine", key: ""}, 60},
		{call{kind: "Delete", name: "none", key: ""}, 61},
		{call{kind: "Delete", name: "none", key: "k"}, 70},
		{call{kind: "Delete", name: "seq", key: "k"}, 74},
		{call{kind: "Delete", name: "count", key: "k"}, 75},
		{call{kind: "Delete", name: "bytes", key: "k"}, 76},
		{call{kind: "DeleteVersion", name: "Fine", key: ""}, 60},
		{call{kind: "DeleteVersion", name: "none", key: ""}, 61},
		{call{kind: "DeleteVersion", name: "none", key: "k"}, 70},
		{call{kind: "DeleteVersion", name: "fine", key: "k", seq: 3}, 72},
		{call{kind: "Get", name: "Fine", key: ""}, 60},
		{call{kind: "Get", name: "none", key: ""}, 61},
		{call{kind: "Get", name: "none", key: "k"}, 70},
		{call{kind: "Get", name: "fine", key: "i"}, 72},
		{call{kind: "Get", name: "fine", key: "j"}, 73},
		{call{kind: "GetVersion", name: "Fine", key: ""}, 60},
		{call{kind: "GetVersion", name: "none", key: ""}, 61},
		{call{kind: "GetVersion", name: "none", key: "k"}, 70},
		{call{kind: "GetVersion", name: "fine", key: "k", seq: 2}, 72},
		{call{kind: "List", name: "Fine"}, 60},
		{call{kind: "List", name: "none"}, 70},
		{call{kind: "Versions", name: "Fine"}, 60},
		{call{kind: "Versions", name: "none"}, 70},
		{call{kind: "Value", name: "Fine"}, 60},
		{call{kind: "Value", name: "none"}, 70},
		{call{kind: "Set", name: "Fine", value: of(0)}, 60},
		{call{kind: "Set", name: "fine", value: of(0)}, 1},
		{call{kind: "Set", name: "fine", value: of(1)}, 71},
		{call{kind: "Replace", name: "Fine", value: of(0)}, 60},
		{call{kind: "Replace", name: "none", value: of(0)}, 1},
		{call{kind: "Replace", name: "none", value: of(1)}, 70},
	} {
		if got := one.c.ask(s); !got.is(told{err: one.want}) {
			t.Errorf("P16.1: %s: %s, want %d alone", one.c, got, one.want)
		}
	}
	holds(t, "P16.2: behind all that was refused", s, m)
}

// TestNames: none, one and more up to MaxBuckets, in whatever order they came;
// no more than that.
func TestNames(t *testing.T) {
	d, s := great(t, nil)
	rising := []string{"-", "0", "a", "a-", "aa", "b", strings.Repeat("n", 32), "z"}
	m := model{}
	for _, at := range []int{3, 7, 0, 5, 2, 6, 1, 4} {
		m = answers(t, "names", s, m, call{kind: "Make", name: rising[at]})
		tells(t, "names", s, m)
		tells(t, "P16.4: names", opens(t, "names", d, 2048), m)
	}
	if l := s.Names(); !slices.Equal(l, rising) {
		t.Fatalf("P16.1: Names: %q, want %q", l, rising)
	}
	wants(t, "P16.1: Make of a ninth", s.Make("ninth"), 77)
	wants(t, "P16.1: Make of a ninth that is there", s.Make("a"), 71)
	wants(t, "P16.1: Set of a ninth", s.Set("ninth", of(1)), 77)
	wants(t, "P16.1: Set of a ninth that is there", s.Set("z", of(1)), 71)
	wants(t, "P16.1: Set of a ninth that isn't right", s.Set("ninth", of(0)), 1)
	holds(t, "P16.2: eight", s, m)
	m = answers(t, "eight", s, m, call{kind: "Drop", name: "a-"})
	m = answers(t, "seven", s, m, call{kind: "Set", name: "ninth", value: of(9, v("k", 3))})
	tells(t, "eight again", s, m)
	for _, name := range m.names() {
		m = answers(t, "fewer", s, m, call{kind: "Drop", name: name})
		tells(t, "fewer", s, m)
	}
}

// TestAgain: a name that is made again knows nothing of what was there.
func TestAgain(t *testing.T) {
	_, s := great(t, nil)
	m := model{}
	for range 3 {
		for _, c := range []call{
			{kind: "Make", name: "a"},
			{kind: "Value", name: "a"},
			{kind: "Put", name: "a", key: "k", data: "one"},
			{kind: "Put", name: "a", key: "k", data: strings.Repeat("d", 1024)},
			{kind: "Delete", name: "a", key: "j"},
			{kind: "DeleteVersion", name: "a", key: "k", seq: 1},
			{kind: "Value", name: "a"},
			{kind: "Drop", name: "a"},
			{kind: "Drop", name: "a"},
			{kind: "Value", name: "a"},
			{kind: "Get", name: "a", key: "k"},
		} {
			m = answers(t, "again", s, m, c)
			tells(t, "again", s, m)
		}
	}
	wants(t, "Make", s.Make("a"), 0)
	if b, err := s.Value("a"); !sameValue(b, of(1)) || err != 0 {
		t.Errorf("P16.1: Value of what was made again: %+v, %d", b, err)
	}
}

// values are right values of all kinds.
func values() map[string]api.Bucket {
	eight := pairs()
	for i := range 8 {
		eight = append(eight, api.Pair{Name: fmt.Sprint(i, "-23456789012345")[:16], Value: strings.Repeat("\xff", 64)})
	}
	greatest := api.Version{Key: strings.Repeat("\xff", 32), Seq: 2, Data: strings.Repeat("\x00", 1024), Meta: eight}
	return map[string]api.Bucket{
		"none":                 of(1),
		"none, not nil":        {Next: 1, Versions: []api.Version{}},
		"none any more":        of(9),
		"none, above MaxSeq":   of(api.MaxSeq + 1),
		"one":                  of(2, v("k", 1)),
		"MaxSeq":               of(api.MaxSeq+1, v("k", api.MaxSeq)),
		"a marker":             of(2, gone("k", 1)),
		"markers":              of(9, gone("j", 4), v("k", 1), gone("k", 2), v("k", 8)),
		"keys against numbers": of(5, v("a", 4), v("b", 3), v("c", 2), v("d", 1)),
		"keys that begin keys": of(9, v("a", 3), v("a", 8), v("a\x00", 5), v("a\x00\x00", 2), v("ab", 7), gone("a\xff", 4), v("b", 1)),
		"keys about groups":    of(9, v("1234567", 8), v("12345678", 7), v("12345678\x00", 6), v("123456789", 5), v(strings.Repeat("k", 31), 4), v(strings.Repeat("k", 32), 3)),
		"bytes 0 and 255":      of(9, v("\x00", 8), v("\x00\x00", 7), v("\x00\xff", 6), v("k", 5), v("\xff", 4), v("\xff\x00", 3), v("\xff\xff", 2)),
		"the greatest":         of(3, v("k", 1), greatest),
		"MaxCount, small":      filled(256, 256*35, 3),
		"MaxCount":             filled(256, 20000, 4),
		"MaxCount of MaxBytes": filled(256, 65536, 32),
		"MaxBytes, few":        filled(64, 65536, 32),
		"one below MaxBytes":   filled(65, 65535, 3),
	}
}

// wrong are values that are not right, each in one way.
func wrong() map[string]api.Bucket {
	return map[string]api.Bucket{
		"zero":                   {},
		"Next below 1":           of(least),
		"Next above MaxSeq + 1":  of(api.MaxSeq + 2),
		"Next greatest":          of(greatest),
		"keys falling":           of(3, v("b", 1), v("a", 2)),
		"numbers falling":        of(9, v("k", 2), v("k", 1)),
		"a version twice":        of(9, v("k", 2), v("k", 2)),
		"a number twice":         of(9, v("j", 2), v("k", 2)),
		"number 0":               of(9, v("k", 0)),
		"a number that is Next":  of(2, v("k", 2)),
		"no key":                 of(9, v("", 1)),
		"a key of 33":            of(9, v(strings.Repeat("k", 33), 1)),
		"data of 1025":           of(9, api.Version{Key: "k", Seq: 1, Data: strings.Repeat("d", 1025)}),
		"pairs falling":          of(9, api.Version{Key: "k", Seq: 1, Meta: pairs(api.Pair{Name: "b"}, api.Pair{Name: "a"})}),
		"a marker with data":     of(9, api.Version{Key: "k", Seq: 1, Marker: true, Data: "d"}),
		"a marker with metadata": of(9, api.Version{Key: "k", Seq: 1, Marker: true, Meta: pairs(api.Pair{Name: "a"})}),
		"one above MaxCount":     filled(257, 20000, 4),
		"one above MaxBytes":     filled(70, 65537, 4),
		"far above both":         filled(5000, 1000000, 4),
	}
}

// inOrder goes through values, by what is said of them.
func inOrder(values map[string]api.Bucket) iter.Seq2[string, api.Bucket] {
	return func(yield func(string, api.Bucket) bool) {
		for _, what := range slices.Sorted(maps.Keys(values)) {
			if !yield(what, values[what]) {
				return
			}
		}
	}
}

// TestValues: each right value is told as it was set, whatever was there before;
// and lasts. Values that are not right are refused, and nothing is changed.
func TestValues(t *testing.T) {
	for what, b := range inOrder(values()) {
		d, s := great(t, model{"other": of(2, v("k", 1)), "there": of(5, v("k", 1), v("m", 4))})
		m := valuesOf(t, what, s)
		m = answers(t, what, s, m, call{kind: "Set", name: "new", value: b})
		m = answers(t, what, s, m, call{kind: "Replace", name: "there", value: b})
		tells(t, what, s, m)
		tells(t, "P16.4: "+what, opens(t, what, d, 2048), m)
		for other, b := range inOrder(wrong()) {
			answers(t, other, s, m, call{kind: "Set", name: "newer", value: b})
			answers(t, other, s, m, call{kind: "Set", name: "there", value: b})
			answers(t, other, s, m, call{kind: "Replace", name: "there", value: b})
			answers(t, other, s, m, call{kind: "Replace", name: "newer", value: b})
		}
		holds(t, "P16.2: behind "+what, s, m)
		for _, name := range []string{"new", "there"} {
			m = answers(t, what, s, m, call{kind: "Put", name: name, key: "k", data: "more"})
			m = answers(t, what, s, m, call{kind: "Delete", name: name, key: "k"})
			m = answers(t, what, s, m, call{kind: "Drop", name: name})
			tells(t, "behind "+what, s, m)
		}
	}
}

// TestReplace: from each right value to each other one.
func TestReplace(t *testing.T) {
	d, s := great(t, model{"a": of(1), "b": of(9, v("k", 7))})
	m := valuesOf(t, "replace", s)
	for from, b := range inOrder(values()) {
		for to, c := range inOrder(values()) {
			m = answers(t, from, s, m, call{kind: "Replace", name: "a", value: b})
			m = answers(t, from+" to "+to, s, m, call{kind: "Replace", name: "a", value: c})
			holds(t, from+" to "+to, s, m)
		}
		holds(t, "P16.4: "+from, opens(t, from, d, 2048), m)
	}
}

// TestReplaceOne: a version in the place of one with the same key and number,
// which differs in one thing alone.
func TestReplaceOne(t *testing.T) {
	all := []api.Version{
		{Key: "k", Seq: 3},
		{Key: "k", Seq: 3, Marker: true},
		{Key: "k", Seq: 3, Data: "d"},
		{Key: "k", Seq: 3, Data: "e"},
		{Key: "k", Seq: 3, Data: strings.Repeat("d", 1024)},
		{Key: "k", Seq: 3, Data: strings.Repeat("d", 1023) + "e"},
		{Key: "k", Seq: 3, Meta: pairs(api.Pair{Name: "a"})},
		{Key: "k", Seq: 3, Meta: pairs(api.Pair{Name: "b"})},
		{Key: "k", Seq: 3, Meta: pairs(api.Pair{Name: "a", Value: "x"})},
		{Key: "k", Seq: 3, Meta: pairs(api.Pair{Name: "a"}, api.Pair{Name: "b"})},
	}
	_, s := great(t, model{"a": of(9, all[0])})
	m := valuesOf(t, "one", s)
	for _, from := range all {
		for _, to := range all {
			m = answers(t, "one", s, m, call{kind: "Replace", name: "a", value: of(9, v("j", 1), from, v("l", 4))})
			m = answers(t, "one", s, m, call{kind: "Replace", name: "a", value: of(9, v("j", 1), to, v("l", 4))})
			tells(t, "one", s, m)
		}
	}
}

// TestMissing: every call of a bucket that isn't there, in an empty store and in
// one with others, whose names are about the same.
func TestMissing(t *testing.T) {
	for _, m := range []model{{}, {"a": of(9, v("k", 7)), "missing-": of(9, v("k", 7)), "missin": of(9, v("k", 7)), "missing0": of(9, v("k", 7))}} {
		_, s := great(t, m)
		for _, kind := range slices.Concat(looks, changes) {
			if kind == "Names" || kind == "Make" || kind == "Set" {
				continue
			}
			c := call{kind: kind, name: "missing", key: "k", seq: 7, most: 9, value: of(1)}
			if got := c.ask(s); !got.is(told{err: api.ErrBucket}) {
				t.Errorf("P16.1: %s: %s, want ErrBucket alone", c, got)
			}
		}
		holds(t, "P16.2: missing", s, m)
	}
}

// TestOdd: inputs out of the ordinary.
func TestOdd(t *testing.T) {
	m := model{"a": of(9, v("\x00", 2), v("k", 7), v("\xff", 5)), "b": of(1)}
	_, s := great(t, m)
	much := strings.Repeat("a", 1<<22)
	manyPairs := slices.Repeat(pairs(api.Pair{Name: "a"}), 1<<16)
	for _, name := range []string{"a", "b", "none", "", much, "\x00", "a\x00", "é", "\xff", "A"} {
		for _, key := range []string{"k", "", "\x00", "\xff", much, strings.Repeat("\xff", 200), strings.Repeat("k", 32)} {
			for _, most := range []int{math.MinInt, -1, 0, 1, 256, 257, math.MaxInt} {
				answers(t, "odd", s, m, call{kind: "List", name: name, key: key, most: most})
				answers(t, "odd", s, m, call{kind: "Versions", name: name, key: key, most: most})
			}
			for _, seq := range []int64{least, -1, 0, 1, 8, api.MaxSeq, api.MaxSeq + 1, greatest} {
				answers(t, "odd", s, m, call{kind: "GetVersion", name: name, key: key, seq: seq})
				answers(t, "odd", s, m, call{kind: "DeleteVersion", name: name, key: key, seq: seq})
			}
			answers(t, "odd", s, m, call{kind: "Put", name: name, key: key, data: much})
			answers(t, "odd", s, m, call{kind: "Put", name: name, key: key, meta: manyPairs})
		}
		answers(t, "odd", s, m, call{kind: "Set", name: name, value: api.Bucket{Next: 9, Versions: make([]api.Version, 1<<16)}})
		answers(t, "odd", s, m, call{kind: "Replace", name: name, value: of(greatest, v(much, least))})
	}
	tells(t, "P16.2: odd", s, m)
}

// walk makes calls of all kinds, and is all that was told.
func walk(t *testing.T, seed uint64, sectors, size, steps int) string {
	t.Helper()
	x := &texter{seed}
	d := newDisk(t, sectors)
	s := opens(t, "walk", d, size)
	m := model{}
	var all strings.Builder
	refused := false
	for i := range steps {
		what := fmt.Sprintf("walk %d, step %d", seed, i)
		kinds := slices.Concat(looks, changes, changes, []string{"Put", "Put", "Put", "Delete"})
		c := x.call(m, kinds, 300)
		m, refused = answersForRoom(t, what, s, m, c)
		fmt.Fprintln(&all, c, refused, m)
		switch x.below(20) {
		case 0:
			tells(t, what, s, m)
		case 1:
			s = opens(t, what, d, size)
			holds(t, "P16.4: "+what, s, m)
		}
		if d.Pending() != 0 {
			t.Fatalf("%s: P16.3: %d writes are pending behind what was answered", what, d.Pending())
		}
	}
	tells(t, "P16.4: at last", opens(t, "at last", d, size), m)
	return all.String()
}

// TestWalks: calls of all kinds on disks of all sizes, as the chapter says.
func TestWalks(t *testing.T) {
	for seed, sectors := range []int{8192, 8192, 400, 200, 100, 60, 40, 30, 24, 20, 16, 13, 12} {
		walk(t, uint64(seed), sectors, min(2048, sectors/2), 400)
		walk(t, uint64(seed), sectors, min(9, sectors/2), 400)
	}
}

// TestTwice: the same calls on new stores tell the same, and what runs beside
// shows nowhere.
func TestTwice(t *testing.T) {
	first := walk(t, 77, 120, 40, 300)
	for range 8 {
		t.Run("beside others", func(t *testing.T) {
			t.Parallel()
			if again := walk(t, 77, 120, 40, 300); again != first {
				t.Errorf("R4: the same calls tell another thing")
			}
		})
	}
}

// TestApart: whatever is done to one bucket, others are told as before; their
// names begin one another, and their keys and numbers are the same.
func TestApart(t *testing.T) {
	x := &texter{5}
	all := []string{"a", "a-", "a0", "aa", "12345678", "12345678-", "12345678a", strings.Repeat("a", 32)}
	m := model{}
	for _, name := range all {
		m[name] = of(9, v("a", 3), v("aa", 8), gone("k", 5), v("k", 7))
	}
	_, s := great(t, m)
	for range 600 {
		c := x.call(m, changes, 200)
		c.name = one(x, all...)
		was := m
		m = answers(t, "P16.6", s, m, c)
		got := valuesOf(t, "P16.6", s)
		delete(got, c.name)
		if !got.is(was.without(c.name)) {
			t.Fatalf("P16.6: behind %s the others are %s, want %s", c, got, was.without(c.name))
		}
	}
	tells(t, "P16.6", s, m)
}
