package world_test

import (
	"fmt"
	"math"
	"slices"
	"strings"
	"testing"

	"coffer/api"
	"coffer/backup"
	"coffer/disk"
	"coffer/world"
)

func chosen(count int, is func(i int) bool) []int {
	var list []int
	for i := range count {
		if is(i) {
			list = append(list, i)
		}
	}
	return list
}

// keeps are the choices of pending writes that a crash keeps: all there are
// where they are few, else some.
func keeps(x *texter, pending int) [][]int {
	var lists [][]int
	if pending <= 3 {
		for choice := range 1 << pending {
			lists = append(lists, chosen(pending, func(i int) bool { return choice>>i&1 == 1 }))
		}
		return lists
	}
	lists = append(lists, nil, chosen(pending, func(int) bool { return true }))
	at := x.below(pending)
	for _, is := range []func(i int) bool{
		func(i int) bool { return i < at }, func(i int) bool { return i >= at }, func(i int) bool { return i == at }, func(i int) bool { return i != at },
		func(i int) bool { return i != 0 }, func(i int) bool { return i != pending-1 }, func(int) bool { return x.below(2) == 0 },
	} {
		lists = append(lists, chosen(pending, is))
	}
	return lists
}

const startSectors, startSize = 180, 90

// startWorld is a world on a small disk, and what it holds: on its shelf are the
// archive of a, and what b has from older's Next on.
func startWorld(t *testing.T) (*world.World, model) {
	t.Helper()
	w, m := begunWith(t, startSectors, startSize, map[string]api.Bucket{
		"a": filled(9, 2500, 3, 1), "b": of(9, v("j", 2), gone("j", 5), v("k", 1), v("k", 7)), "older": of(5, v("j", 2), v("k", 1)), "other": of(2, v("k", 1)),
	})
	m = answers(t, "the start", w, m, world.Step{Kind: world.Export, Bucket: "a"})
	m = answers(t, "the start", w, m, world.Step{Kind: world.Since, Bucket: "b", Seq: 5})
	return w, m
}

// underWay are steps of each kind that changes, small and great.
func underWay() []world.Step {
	return []world.Step{
		{Kind: world.Make, Bucket: "d"},
		{Kind: world.Drop, Bucket: "a"},
		{Kind: world.Put, Bucket: "b", Key: "k", Data: "new", Meta: pairs("a", "b")},
		{Kind: world.Put, Bucket: "a", Key: "great", Data: times(1024, "g")},
		{Kind: world.Delete, Bucket: "b", Key: "k"},
		{Kind: world.Remove, Bucket: "b", Key: "j", Seq: 5},
		{Kind: world.Import, Bucket: "d", Data: packed(of(9, gone("j", 5), v("k", 3)), 0)},
		{Kind: world.Import, Bucket: "d", Data: packed(filled(20, 4000, 3, 1), 0)},
		{Kind: world.Apply, Bucket: "b", Data: packed(of(20, v("a", 12), gone("k", 9)), 9)},
		{Kind: world.Apply, Bucket: "a", Data: packed(filled(20, 4000, 4, 10), 10)},
		{Kind: world.ImportShelf, Bucket: "d", N: 0},
		{Kind: world.ApplyShelf, Bucket: "older", N: 1},
	}
}

// lost is a new world in which the power went at the n-th of the disk's calls
// within a step; and whether it went.
func lost(t *testing.T, s world.Step, n int) (*world.World, model, bool) {
	t.Helper()
	w, m := startWorld(t)
	alone(t, "Fall", w, world.Step{Kind: world.Fall, N: n}, api.OK)
	got := w.Do(s)
	if w.Up() {
		if want, _ := m.by(s); !toldSame(got, want) || w.Disk().Off() || w.Disk().Pending() != 0 {
			t.Fatalf("P21.3: %s, the power stays: %s, off %v, %d pending", said(s), toldAs(got), w.Disk().Off(), w.Disk().Pending())
		}
		return w, m, false
	}
	if !isAlone(got, api.ErrOff) || !w.Disk().Off() {
		t.Fatalf("P21.1: %s, the power goes at %d: %s, off %v", said(s), n, toldAs(got), w.Disk().Off())
	}
	isDown(t, "P21.1: "+said(s), w, m.shelf)
	return w, m, true
}

// fallsIn has the power go at each of the disk's calls within a step in turn, and
// calls tell with a world that is down for each choice of what a crash may keep.
// It is how many of the disk's calls there are.
func fallsIn(t *testing.T, x *texter, s world.Step, tell func(what string, w *world.World, m, behind model, kept []int)) int {
	t.Helper()
	for n := 1; ; n++ {
		w, m, isLost := lost(t, s, n)
		_, behind := m.by(s)
		if !isLost {
			alone(t, "P21.3", w, world.Step{Kind: world.Crash}, api.OK)
			holds(t, "P21.3: "+said(s), w, behind)
			return n - 1
		}
		for _, kept := range keeps(x, w.Disk().Pending()) {
			w, _, _ := lost(t, s, n)
			tell(fmt.Sprintf("%s, the power goes at %d, kept %v", said(s), n, kept), w, m, behind, kept)
		}
	}
}

// TestPower: wherever the power goes in a step, and whatever is kept, the world
// is behind a Crash the one ahead of the step, or the one behind it, whole;
// crashed again it is the same; and it goes on.
func TestPower(t *testing.T) {
	x := seed(31)
	for _, s := range underWay() {
		old, new := 0, 0
		calls := fallsIn(t, x, s, func(what string, w *world.World, m, behind model, kept []int) {
			alone(t, "P21.3: "+what, w, world.Step{Kind: world.Crash, Kept: kept}, api.OK)
			is := found(t, what, w)
			switch {
			case is.is(m):
				old++
			case is.is(behind):
				new++
			default:
				t.Fatalf("P21.3: %s: %s, want %s or %s", what, is, m, behind)
			}
			for _, again := range [][]int{nil, kept} {
				alone(t, "P21.4: "+what, w, world.Step{Kind: world.Crash, Kept: again}, api.OK)
				holds(t, "P21.4: crashed again: "+what, w, is)
			}
			is = answers(t, what, w, is, world.Step{Kind: world.Put, Bucket: "other", Key: "more", Data: "more"})
			if (old+new)%10 == 0 {
				is = tells(t, what, w, is)
			}
			alone(t, what, w, world.Step{Kind: world.Crash}, api.OK)
			holds(t, "P21.3: on behind "+what, w, is)
		})
		if old == 0 || new == 0 || calls < 4 {
			t.Errorf("P21.3: %s: as it was %d times, as it is %d times, %d of the disk's calls", said(s), old, new, calls)
		}
	}
}

// TestPowerAgain: wherever the power goes within the opening behind a crash, and
// whatever is kept, once or again and again, the world is the same as if it had
// not.
func TestPowerAgain(t *testing.T) {
	x := seed(32)
	fallen := 0
	for _, s := range underWay() {
		fallsIn(t, x, s, func(what string, w *world.World, m, behind model, kept []int) {
			if x.below(9) > 0 {
				return
			}
			is, err := openedFrom(t, what, w, kept)
			wants(t, "P21.4: "+what, err, api.OK)
			if !is.is(m) && !is.is(behind) {
				t.Fatalf("P21.4: %s: %s, want %s or %s", what, is, m, behind)
			}
			for n := 1; ; n++ {
				got := w.Do(world.Step{Kind: world.Crash, Kept: kept, N: n})
				if isAlone(got, api.OK) {
					break
				}
				if !isAlone(got, api.ErrOff) || !w.Disk().Off() {
					t.Fatalf("P21.4: %s, and at %d of the opening: %s, off %v", what, n, toldAs(got), w.Disk().Off())
				}
				fallen++
				isDown(t, "P21.4: "+what, w, m.shelf)
				alone(t, "P21.4: "+what, w, world.Step{Kind: world.Names}, api.ErrOff)
				kept = one(x, keeps(x, w.Disk().Pending())...)
			}
			holds(t, "P21.4: "+what, w, is)
			alone(t, "P21.4: "+what, w, world.Step{Kind: world.Crash}, api.OK)
			tells(t, "P21.4: "+what, w, is)
		})
	}
	if fallen < 100 {
		t.Errorf("the power went in the opening %d times", fallen)
	}
}

// openedFrom is what is there if the power comes back now, by the layers below:
// what the store of a copy of the disk holds.
func openedFrom(t *testing.T, what string, w *world.World, kept []int) (model, api.Errno) {
	t.Helper()
	d := w.Disk().Copy()
	d.Crash(kept)
	d.On()
	s, err := backup.Open(d, startSize)
	if err != api.OK {
		return model{}, err
	}
	m := model{values: map[string]api.Bucket{}, shelf: w.Shelf()}
	for _, name := range s.Names() {
		b, err := s.Value(name)
		wants(t, what, err, api.OK)
		m.values[name] = b
	}
	return m, api.OK
}

// behaves is all that can be told of a disk: what is seen, whether it is off, how
// many writes are pending, what they leave, and when the power goes.
func behaves(t *testing.T, d *disk.Disk) string {
	t.Helper()
	sectors := func(d *disk.Disk) string {
		var all strings.Builder
		for n := range d.Sectors() {
			text, err := d.Read(n)
			all.WriteString(err.Error())
			all.WriteString(text)
		}
		return all.String()
	}
	all := fmt.Sprint(d.Off(), d.Pending(), sectors(d))
	count := d.Copy()
	count.On()
	n := 0
	for ; n < 200 && count.Flush() == api.OK; n++ {
	}
	all += fmt.Sprint("; falls at ", n)
	for _, kept := range [][]int{nil, chosen(d.Pending(), func(int) bool { return true }), {0, 2}} {
		other := d.Copy()
		other.Crash(kept)
		other.On()
		all += sectors(other)
	}
	return all
}

// asTheDisk: a Fall or a Crash does what disk's calls and backup's Open do, as
// the chapter says, and tells what Open tells.
func asTheDisk(t *testing.T, what string, w *world.World, s world.Step) {
	t.Helper()
	shelf, was := w.Shelf(), w.Up()
	d, want := w.Disk().Copy(), api.OK
	if s.Kind == world.Fall {
		d.Fall(s.N)
	} else {
		d.Crash(s.Kept)
		d.On()
		d.Fall(s.N)
		_, want = backup.Open(d, startSize)
		was = want == api.OK
	}
	alone(t, "P21.1: "+what, w, s, want)
	if behaves(t, w.Disk()) != behaves(t, d) {
		t.Fatalf("P21.1: %s: behind %s the disk is another than behind its own calls", what, said(s))
	}
	if w.Up() != was || (w.Store() != nil) != was || !slices.Equal(w.Shelf(), shelf) {
		t.Fatalf("P21.1: %s: behind %s up is %v, the store %v, %d on the shelf", what, said(s), w.Up(), w.Store(), len(w.Shelf()))
	}
}

// went is how many of some puts go, by the layers below, where the power falls at
// the n-th of the disk's calls.
func went(t *testing.T, w *world.World, s world.Step, n, most int) int {
	t.Helper()
	d := w.Disk().Copy()
	store, err := backup.Open(d, startSize)
	wants(t, "Open", err, api.OK)
	d.Fall(n)
	for i := range most {
		if _, err := store.Put(s.Bucket, s.Key, s.Data, s.Meta); err != api.OK {
			return i
		}
	}
	return most
}

// TestFall: below 1, 1 and more, up and down, a second one ahead of the first
// one's end.
func TestFall(t *testing.T) {
	const most = 4
	put := world.Step{Kind: world.Put, Bucket: "b", Key: "k", Data: "new"}
	tried := [][]int{
		{0}, {-1}, {math.MinInt}, {math.MaxInt}, {1, 0}, {1, -7}, {0, 1}, {1, 30}, {30, 1}, {math.MaxInt, 2}, {9, 1, 50}, {2, math.MaxInt},
	}
	for n := 1; n < 90; n++ {
		tried = append(tried, []int{n})
	}
	counted := map[int]int{}
	for _, falls := range tried {
		w, m := startWorld(t)
		for _, n := range falls {
			asTheDisk(t, "up", w, world.Step{Kind: world.Fall, N: n})
			// What looks, and what is refused, is nothing to the power.
			m = answers(t, "P21.1: to fall", w, m, world.Step{Kind: world.Export, Bucket: "b"})
			alone(t, "P21.1: to fall", w, world.Step{Kind: world.Make, Bucket: "a"}, api.ErrExists)
			alone(t, "P21.1: to fall", w, world.Step{Kind: 99}, api.ErrArg)
		}
		steps := went(t, w, put, falls[len(falls)-1], most)
		counted[steps]++
		for range steps {
			m = answers(t, fmt.Sprint("P21.1: Fall ", falls), w, m, put)
		}
		holds(t, "P21.1: ahead of the fall", w, m)
		if steps < most {
			alone(t, fmt.Sprint("P21.1: Fall ", falls), w, put, api.ErrOff)
			isDown(t, "P21.1: behind the fall", w, m.shelf)
		}
	}
	for steps := range most + 1 {
		if counted[steps] == 0 {
			t.Errorf("no Fall goes behind %d steps: %v", steps, counted)
		}
	}
}

// TestSecondFall: a Fall within what an earlier one counts begins anew.
func TestSecondFall(t *testing.T) {
	put := world.Step{Kind: world.Put, Bucket: "b", Key: "k", Data: "new"}
	w, m := startWorld(t)
	for range 5 {
		alone(t, "P21.1", w, world.Step{Kind: world.Fall, N: 40}, api.OK)
		m = answers(t, "P21.1: a second Fall", w, m, put)
		m = answers(t, "P21.1: a second Fall", w, m, put)
	}
	alone(t, "P21.1", w, world.Step{Kind: world.Fall, N: 2}, api.OK)
	alone(t, "P21.1: the last Fall", w, put, api.ErrOff)
}

// TestFallDown: said where the world is down, a Fall is forgotten by the Crash,
// whose own N stands.
func TestFallDown(t *testing.T) {
	for _, n := range []int{math.MinInt, -1, 0, 1, 2, 5, math.MaxInt} {
		w, m := startWorld(t)
		falls(t, w)
		for _, k := range []int{n, 3, n} {
			asTheDisk(t, "down", w, world.Step{Kind: world.Fall, N: k})
			isDown(t, "P21.1: Fall", w, m.shelf)
			alone(t, "P21.1: down", w, world.Step{Kind: world.Names}, api.ErrOff)
		}
		asTheDisk(t, "down", w, world.Step{Kind: world.Crash})
		for range 9 {
			m = answers(t, "P21.1: Fall is forgotten", w, m, world.Step{Kind: world.Put, Bucket: "b", Key: "k"})
		}
		holds(t, "P21.1: Fall is forgotten", w, m)
		// The disk was off without a Fall: what was said since stands till the Crash.
		w.Disk().Crash(nil)
		alone(t, "P21.1: off", w, world.Step{Kind: world.Names}, api.ErrOff)
		asTheDisk(t, "off", w, world.Step{Kind: world.Fall, N: n})
		asTheDisk(t, "off", w, world.Step{Kind: world.Crash, N: -1})
		for range 9 {
			m = answers(t, "P21.1: Crash with no N", w, m, world.Step{Kind: world.Put, Bucket: "b", Key: "k"})
		}
		holds(t, "P21.1: Crash with no N", w, m)
	}
}

// TestCrash: up and down, with Kept of nothing, of all, of some, with numbers
// twice, below 0 and too great; with N below 1, within the opening and behind it.
func TestCrash(t *testing.T) {
	all := func(pending int) []int { return chosen(pending, func(int) bool { return true }) }
	kept := []func(pending int) []int{
		func(int) []int { return nil },
		func(int) []int { return []int{} },
		all,
		func(pending int) []int { return append(all(pending), all(pending)...) },
		func(pending int) []int {
			return append([]int{math.MinInt, -1, pending, pending + 1, math.MaxInt}, all(pending/2)...)
		},
		func(int) []int { return []int{-1, math.MaxInt, math.MinInt} },
		func(pending int) []int { return []int{pending - 1, 0, 0, pending - 1, 0} },
		func(pending int) []int { l := all(pending); slices.Reverse(l); return l },
	}
	told := map[api.Errno]int{}
	for _, s := range underWay()[2:6] {
		for n := 0; n < 14; n += 2 {
			for i, kept := range kept {
				w, m := startWorld(t)
				_, behind := m.by(s)
				alone(t, "P21.1", w, world.Step{Kind: world.Fall, N: n}, api.OK)
				got := w.Do(s)
				if got.Err == api.OK {
					m = behind
				}
				for _, more := range []int{[]int{0, -1, math.MinInt, 1, 2, 3, 50, math.MaxInt}[(n+i)%8], 1, 2, 0} {
					step := world.Step{Kind: world.Crash, Kept: kept(w.Disk().Pending()), N: more}
					asTheDisk(t, "Crash", w, step)
					if !w.Up() {
						told[api.ErrOff]++
						isDown(t, "P21.4", w, m.shelf)
						continue
					}
					told[api.OK]++
					is := found(t, "P21.3", w)
					if !is.is(m) && !is.is(behind) {
						t.Fatalf("P21.3: behind %s: %s, want %s or %s", said(step), is, m, behind)
					}
					m, behind = is, is
				}
				if !w.Up() {
					t.Fatalf("P21.3: crashed with no N it is down")
				}
				tells(t, "P21.3", w, m)
			}
		}
	}
	if told[api.OK] == 0 || told[api.ErrOff] == 0 {
		t.Errorf("what Crash told: %v", told)
	}
}

// TestCrashN: the N of a Crash counts the opening's writes and flushes, and then
// those of the steps behind it.
func TestCrashN(t *testing.T) {
	put := world.Step{Kind: world.Put, Bucket: "b", Key: "k", Data: "new"}
	for n := 1; n < 60; n++ {
		w, m := startWorld(t)
		asTheDisk(t, "N", w, world.Step{Kind: world.Crash, N: n})
		if !w.Up() {
			continue
		}
		holds(t, "P21.1: Crash with an N", w, m)
		steps := 0
		for ; w.Do(put).Err == api.OK; steps++ {
			m = m.with("b", found(t, "N", w).values["b"])
		}
		if steps > n {
			t.Fatalf("P21.1: Crash with N %d, and %d steps went", n, steps)
		}
		isDown(t, "P21.1: Crash with an N", w, m.shelf)
		asTheDisk(t, "N", w, world.Step{Kind: world.Crash})
		_, behind := m.by(put)
		if is := found(t, "N", w); !is.is(m) && !is.is(behind) {
			t.Fatalf("P21.3: Crash with N %d: %s, want %s or %s", n, is, m, behind)
		}
	}
}

// TestOff: where the disk is off behind a step of 1 to 16, whatever the step
// would tell and whatever is wrong with it, the world is down, the answer is
// ErrOff alone, and nothing goes onto the shelf.
func TestOff(t *testing.T) {
	off := map[string]func(d *disk.Disk){
		"by Crash": func(d *disk.Disk) { d.Crash(nil) },
		"by Fall":  func(d *disk.Disk) { d.Fall(1); d.Flush() },
	}
	for _, s := range kindsTried() {
		for how, off := range off {
			if isOf(s.Kind, world.Fall, world.Crash) {
				continue
			}
			w, m := someWorld(t)
			off(w.Disk())
			alone(t, "P21.1: off "+how, w, s, api.ErrOff)
			isDown(t, "P21.1: off "+how, w, m.shelf)
			// It is the world that is down: the disk's power alone doesn't bring it up.
			w.Disk().On()
			alone(t, "P21.1: down", w, s, api.ErrOff)
			isDown(t, "P21.1: off and on "+how, w, m.shelf)
			alone(t, "P21.3", w, world.Step{Kind: world.Crash}, api.OK)
			holds(t, "P21.3: off "+how, w, m)
		}
	}
}

// TestDown: where it is down every step but Fall and Crash is ErrOff, whatever is
// right or wrong with it; the disk is not asked, and stays as it is.
func TestDown(t *testing.T) {
	w, m := someWorld(t)
	falls(t, w)
	was := behaves(t, w.Disk())
	x := seed(33)
	for _, s := range kindsTried() {
		if isOf(s.Kind, world.Fall, world.Crash) {
			continue
		}
		alone(t, "P21.1: down", w, s, api.ErrOff)
		for range 5 {
			other := x.step(m, []int{s.Kind}, 2000)
			other.N, other.Kept = one(x, -1, 0, 99), []int{0}
			alone(t, "P21.1: down", w, other, api.ErrOff)
		}
		isDown(t, "P21.1: behind "+said(s), w, m.shelf)
	}
	if behaves(t, w.Disk()) != was {
		t.Errorf("P21.1: steps of a world that is down have changed its disk")
	}
	alone(t, "P21.3", w, world.Step{Kind: world.Crash}, api.OK)
	holds(t, "P21.3", w, m)
}

// TestOthersWrote: a disk on which others wrote what is no store: Crash tells
// Open's error, and the world is down, again and again, till it is a store again.
func TestOthersWrote(t *testing.T) {
	for _, n := range []int{0, startSize} {
		w, m := startWorld(t)
		text, err := w.Disk().Read(n)
		wants(t, "Read", err, api.OK)
		wants(t, "Write", w.Disk().Write(n, times(512, "x")), api.OK)
		wants(t, "Flush", w.Disk().Flush(), api.OK)
		for range 2 {
			asTheDisk(t, "no store", w, world.Step{Kind: world.Crash})
			isDown(t, "P21.1: no store", w, m.shelf)
			alone(t, "P21.1: no store", w, world.Step{Kind: world.Crash}, api.ErrTorn)
			alone(t, "P21.1: no store", w, world.Step{Kind: world.Export, Bucket: "a"}, api.ErrOff)
			asTheDisk(t, "no store", w, world.Step{Kind: world.Fall, N: 3})
			alone(t, "P21.1: no store", w, world.Step{Kind: 0}, api.ErrArg)
		}
		alone(t, "no store", w, world.Step{Kind: world.Fall}, api.OK)
		wants(t, "Write", w.Disk().Write(n, text), api.OK)
		wants(t, "Flush", w.Disk().Flush(), api.OK)
		alone(t, "P21.1: down", w, world.Step{Kind: world.Names}, api.ErrOff)
		asTheDisk(t, "a store again", w, world.Step{Kind: world.Crash})
		tells(t, "P21.1: a store again", w, m)
	}
}

// TestOthersWroteAnything: of a disk that others wrote to every step ends, none
// panics, and with an error nothing else is told.
func TestOthersWroteAnything(t *testing.T) {
	x := seed(34)
	for range 400 {
		w, m := startWorld(t)
		for range 1 + x.below(3) {
			n := one(x, startSize+x.below(startSectors-startSize), x.below(startSectors))
			text, err := w.Disk().Read(n)
			wants(t, "Read", err, api.OK)
			wants(t, "Write", w.Disk().Write(n, turned(text, one(x, x.below(512), x.below(40)), byte(x.number()))), api.OK)
		}
		for i := range 12 {
			s := x.step(m, asking, 300)
			if i == 5 {
				s = world.Step{Kind: world.Crash, Kept: []int{0, 1, 2}, N: x.below(9)}
			}
			if got := w.Do(s); got.Err != api.OK && !isAlone(got, got.Err) {
				t.Fatalf("R2: with an error more is told: %s", toldAs(got))
			}
			if w.Up() != (w.Store() != nil) {
				t.Fatalf("P21.1: up %v, store %v", w.Up(), w.Store())
			}
		}
	}
}

// life is a world in which the power goes again and again, and what is known of
// it: it is m, or behind.
type life struct {
	x         *texter
	w         *world.World
	m, behind model
	crashes   int
}

// TestLives: long lives in which the power goes again and again, in steps and in
// the opening, on disks of all sizes.
func TestLives(t *testing.T) {
	for n, one := range []struct{ sectors, size int }{{8192, 2048}, {400, 200}, {200, 100}, {60, 30}, {40, 9}, {12, 8}} {
		l := &life{x: seed(40 + n), w: begun(t, one.sectors, one.size)}
		for step := range 900 {
			what := fmt.Sprintf("%v, step %d", one, step)
			switch r := l.x.below(20); {
			case r < 3:
				alone(t, what, l.w, world.Step{Kind: world.Fall, N: l.x.below(70) - 5}, api.OK)
			case r < 5 || !l.w.Up() && r < 15:
				l.crash(t, what)
			case !l.w.Up():
				alone(t, "P21.1: down: "+what, l.w, l.x.step(l.m, asking, 300), api.ErrOff)
				isDown(t, "P21.1: "+what, l.w, l.m.shelf)
			default:
				l.step(t, what)
			}
		}
		if l.crashes < 50 {
			t.Errorf("%v: the power came back %d times", one, l.crashes)
		}
		alone(t, "at last", l.w, world.Step{Kind: world.Crash, Kept: []int{0}}, api.OK)
		if is := found(t, "at last", l.w); is.is(l.behind) {
			l.m = l.behind
		}
		tells(t, "P21.3: at last", l.w, l.m)
	}
}

// step does a step in a world that is up.
func (l *life) step(t *testing.T, what string) {
	t.Helper()
	s := l.x.step(l.m, slices.Concat(asking, changes, []int{world.Put, world.Put}), 300)
	want, behind := l.m.by(s)
	got := l.w.Do(s)
	switch {
	case !l.w.Up():
		if !isAlone(got, api.ErrOff) || !l.w.Disk().Off() {
			t.Fatalf("P21.1: %s: %s: %s, want ErrOff alone", what, said(s), toldAs(got))
		}
		isDown(t, "P21.1: "+what, l.w, l.m.shelf)
		l.behind = model{behind.values, l.m.shelf}
		return
	case isRoom(got.Err) && isAlone(got, got.Err) && want.Err == api.OK && isOf(s.Kind, changes...):
	case !toldSame(got, want):
		t.Fatalf("P21.2: %s: %s of %s: %s, want %s", what, said(s), l.m, toldAs(got), toldAs(want))
	default:
		l.m, l.behind = behind, behind
	}
	holds(t, what, l.w, l.m)
}

// crash takes the power and gives it back; it may go again in the opening.
func (l *life) crash(t *testing.T, what string) {
	t.Helper()
	kept := one(l.x, keeps(l.x, l.w.Disk().Pending())...)
	s := world.Step{Kind: world.Crash, Kept: kept, N: l.x.below(12) - 2}
	got := l.w.Do(s)
	if !l.w.Up() {
		if !isAlone(got, api.ErrOff) || s.N < 1 {
			t.Fatalf("P21.4: %s: %s: %s", what, said(s), toldAs(got))
		}
		isDown(t, "P21.4: "+what, l.w, l.m.shelf)
		return
	}
	l.crashes++
	is := found(t, what, l.w)
	if !isAlone(got, api.OK) || !is.is(l.m) && !is.is(l.behind) {
		t.Fatalf("P21.3: %s: %s: %s, and there is %s, want %s or %s", what, said(s), toldAs(got), is, l.m, l.behind)
	}
	l.m, l.behind = is, is
}
