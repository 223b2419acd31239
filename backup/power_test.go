package backup_test

import (
	"fmt"
	"slices"
	"testing"

	"coffer/api"
	"coffer/backup"
	"coffer/disk"
)

func chosen(count int, is func(i int) bool) []int {
	var list []int
	for i := range count {
		if is(i) {
			list = append(list, i)
		}
	}
	return list
}

// keeps are the choices of pending writes that a crash keeps: all there are
// where they are few, else some.
func keeps(x *texter, pending int) [][]int {
	var lists [][]int
	if pending <= 4 {
		for choice := range 1 << pending {
			lists = append(lists, chosen(pending, func(i int) bool { return choice>>i&1 == 1 }))
		}
		return lists
	}
	lists = append(lists, nil, chosen(pending, func(int) bool { return true }))
	at := x.below(pending)
	for _, is := range []func(i int) bool{
		func(i int) bool { return i < at }, func(i int) bool { return i >= at }, func(i int) bool { return i == at }, func(i int) bool { return i != at },
		func(i int) bool { return i == 0 }, func(i int) bool { return i != 0 }, func(i int) bool { return i == pending-1 }, func(i int) bool { return i != pending-1 },
		func(int) bool { return x.below(2) == 0 }, func(int) bool { return x.below(2) == 0 },
	} {
		lists = append(lists, chosen(pending, is))
	}
	return lists
}

// crashed is a disk behind a crash of another one, on again.
func crashed(d *disk.Disk, kept []int) *disk.Disk {
	c := d.Copy()
	c.Crash(kept)
	c.On()
	return c
}

// isDead: a store answers ErrOff, or nothing, to whatever it is asked, right or
// wrong.
func isDead(t *testing.T, what string, s *backup.Store) {
	t.Helper()
	for _, kind := range kinds {
		for _, name := range []string{"a", "none", "A", ""} {
			for i, text := range []string{"x", packed(of(1), 0), packed(of(9), 9)} {
				c := call{kind: kind, name: name, key: one(seed(i), "k", ""), data: times(1023+i, "d"), seq: int64(i) * 9, most: 9, text: text}
				want := told{err: api.ErrOff}
				if kind == "Names" {
					want.err = 0
				}
				if got := c.ask(s); !got.is(want) {
					t.Fatalf("%s: P20.6: %s of a dead store: %s, want %s", what, c, got, want)
				}
			}
		}
	}
}

const startSize = 90

// start is a store on a small disk, and what it holds.
func start(t *testing.T) (*disk.Disk, model) {
	t.Helper()
	m := model{"a": filled(9, 2500, 3, 1), "b": of(9, v("j", 2), gone("j", 5), v("k", 1), v("k", 7)), "c": of(1), "other": of(2, v("k", 1))}
	d, _ := laid(t, 180, startSize, m)
	return d, m
}

// underWay are calls of each kind that changes, small and great.
func underWay() []call {
	return []call{
		{kind: "Import", name: "d", text: packed(of(1), 0)},
		{kind: "Import", name: "d", text: packed(of(9, gone("j", 5), v("k", 3)), 0)},
		{kind: "Import", name: "d", text: packed(filled(20, 4000, 3, 1), 0)},
		{kind: "Apply", name: "b", text: packed(of(10), 9)},
		{kind: "Apply", name: "b", text: packed(of(20, v("a", 12), gone("k", 9)), 9)},
		{kind: "Apply", name: "a", text: packed(filled(20, 4000, 4, 10), 10)},
		{kind: "Apply", name: "c", text: packed(filled(9, 5000, 4, 1), 1)},
		{kind: "Make", name: "d"},
		{kind: "Drop", name: "a"},
		{kind: "Put", name: "b", key: "k", data: "new", meta: pairs("a", "b")},
		{kind: "Delete", name: "b", key: "k"},
		{kind: "DeleteVersion", name: "b", key: "j", seq: 5},
	}
}

// fallsIn has the power go at each of the disk's calls within a call in turn, and
// calls tell with each disk that may be there behind it. It is how many there
// are, and the disk behind the call when the power stays.
func fallsIn(t *testing.T, x *texter, start *disk.Disk, c call, tell func(what string, d *disk.Disk)) (int, *disk.Disk) {
	t.Helper()
	for n := 1; ; n++ {
		d := start.Copy()
		s := opens(t, "the start", d, startSize)
		d.Fall(n)
		got := c.ask(s)
		if !d.Off() {
			wants(t, "P20.6: "+c.String(), got.err, api.OK)
			if d.Pending() != 0 {
				t.Fatalf("P20.6: %s: %d are pending", c, d.Pending())
			}
			d.Fall(0)
			return n - 1, d
		}
		what := fmt.Sprintf("%s, the power goes at the disk's call %d", c, n)
		if !got.is(told{err: api.ErrOff}) {
			t.Fatalf("P20.6: %s: %s, want ErrOff alone", what, got)
		}
		isDead(t, what, s)
		for _, kept := range keeps(x, d.Pending()) {
			tell(fmt.Sprint(what, ", kept ", kept), crashed(d, kept))
		}
		d.Crash(nil)
		d.On()
		isDead(t, what+", and comes back", s)
	}
}

// TestPower: wherever the power goes in a call, and whatever is kept, the store
// is the one ahead of the call, or the one behind it, whole; and goes on.
func TestPower(t *testing.T) {
	x := seed(31)
	d, m := start(t)
	for _, c := range underWay() {
		_, behind := c.by(m)
		old, new := 0, 0
		calls, after := fallsIn(t, x, d, c, func(what string, d *disk.Disk) {
			s := opens(t, "P20.6: "+what, d, startSize)
			is := valuesOf(t, what, s)
			switch {
			case is.is(m):
				old++
			case is.is(behind):
				new++
			default:
				t.Fatalf("P20.6: %s: %s, want %s or %s", what, is, m, behind)
			}
			holds(t, "P20.6: opened again: "+what, opens(t, what, d, startSize), is)
			if (old+new)%10 == 0 {
				tells(t, what, s, is)
			}
			is = answers(t, what, s, is, call{kind: "Apply", name: "other", text: packed(of(9, v("more", 3)), 2)})
			holds(t, "P20.6: on behind "+what, opens(t, what, d, startSize), is)
		})
		if old == 0 || new == 0 || calls < 4 {
			t.Errorf("P20.6: %s: as it was %d times, as it is %d times, %d of the disk's calls", c, old, new, calls)
		}
		holds(t, "P20.6: "+c.String(), opens(t, c.String(), after, startSize), behind)
	}
}

// TestPowerAgain: wherever the power goes in opening behind a crash, and whatever
// is kept, the store is the same as if it had not.
func TestPowerAgain(t *testing.T) {
	x := seed(32)
	d, m := start(t)
	fallen := 0
	for _, c := range underWay()[:7] {
		_, behind := c.by(m)
		fallsIn(t, x, d, c, func(what string, d *disk.Disk) {
			if x.below(20) > 0 {
				return
			}
			is := valuesOf(t, what, opens(t, what, d.Copy(), startSize))
			for n := 1; ; n++ {
				again := d.Copy()
				again.Fall(n)
				s, err := backup.Open(again, startSize)
				if err == api.OK {
					break
				}
				fallen++
				if s != nil || err != api.ErrOff || !again.Off() {
					t.Fatalf("P20.6: %s, and at %d of Open: %v, %d, off %v", what, n, s, err, again.Off())
				}
				for _, kept := range keeps(x, again.Pending()) {
					got := valuesOf(t, what, opens(t, what, crashed(again, kept), startSize))
					if !got.is(is) || !got.is(m) && !got.is(behind) {
						t.Fatalf("P20.6: %s, and at %d of Open: %s, want %s", what, n, got, is)
					}
				}
			}
		})
	}
	if fallen == 0 {
		t.Errorf("the power never went in Open")
	}
}

// TestPowerAtFirst: wherever the power goes in the very first opening, and
// whatever is kept, the store is opened then, and empty.
func TestPowerAtFirst(t *testing.T) {
	x := seed(33)
	for _, one := range []struct{ sectors, size int }{{12, 8}, {60, 20}, {8192, 2048}} {
		fallen := 0
		for n := 1; ; n++ {
			d := newDisk(t, one.sectors)
			d.Fall(n)
			s, err := backup.Open(d, one.size)
			if err == api.OK {
				break
			}
			fallen++
			if s != nil || err != api.ErrOff || !d.Off() {
				t.Fatalf("P20.6: %v, at %d: %v, %d, off %v", one, n, s, err, d.Off())
			}
			for _, kept := range keeps(x, d.Pending()) {
				s := opens(t, "P20.6: at first", crashed(d, kept), one.size)
				holds(t, "P20.6: at first", s, model{})
				answers(t, "P20.6: at first", s, model{}, call{kind: "Import", name: "a", text: packed(of(9), 0)})
			}
		}
		if fallen == 0 {
			t.Fatalf("P20.6: %v: the power never went", one)
		}
	}
}

// TestDead: a store is dead from the first ErrOff on, whichever call met it, and
// stays so when the power comes back; what was opened anew isn't.
func TestDead(t *testing.T) {
	d, m := start(t)
	for _, kind := range kinds {
		for i, text := range []string{"x", packed(of(1), 0), packed(of(10), 9)} {
			d := d.Copy()
			s := opens(t, "dead", d, startSize)
			d.Crash(nil)
			c := call{kind: kind, name: one(seed(i), "b", "A", "none"), key: "k", seq: 1, most: 9, text: text}
			if got := c.ask(s); got.err != api.ErrOff && kind != "Names" || !got.is(told{err: got.err}) {
				t.Errorf("P20.6: %s of a disk that is off: %s", c, got)
			}
			isDead(t, kind+" of a disk that is off", s)
			d.On()
			isDead(t, kind+" of a disk that was off", s)
			holds(t, "P20.6: opened anew", opens(t, "opened anew", d, startSize), m)
		}
	}
}

// TestLooksAskNothing: calls that change nothing, and those that are refused,
// ask nothing of the disk that the power could go at; nor does what changes
// nothing by what it lays.
func TestLooksAskNothing(t *testing.T) {
	x := seed(34)
	d, m := start(t)
	s := opens(t, "looks", d, startSize)
	d.Fall(1)
	for range 400 {
		c := x.call(m, kinds, 100)
		if want, _ := c.by(m); want.err != api.OK || slices.Contains(looks, c.kind) {
			answers(t, "looks", s, m, c)
		}
	}
	for name, b := range m {
		answers(t, "nothing new", s, m, call{kind: "Apply", name: name, text: packed(of(b.Next), b.Next)})
	}
	holds(t, "P20.5: looks", s, m)
	if d.Off() {
		t.Errorf("P20.5: the power went")
	}
}

// TestPowerWalk: a long life in which the power goes again and again, in calls
// and in opening.
func TestPowerWalk(t *testing.T) {
	for n, one := range []struct{ sectors, size int }{{8192, 2048}, {200, 100}, {60, 30}, {40, 9}} {
		x := seed(40 + n)
		d := newDisk(t, one.sectors)
		s := opens(t, "a life", d, one.size)
		m := model{}
		for step := range 400 {
			what := fmt.Sprintf("P20.6: %v, step %d", one, step)
			d.Fall(x.below(60))
			c := x.call(m, slices.Concat(changes, []string{"Put", "Import", "Apply", "Names", "Export"}), 300)
			want, behind := c.by(m)
			got := c.ask(s)
			switch {
			case d.Off():
				if !got.is(told{err: api.ErrOff}) {
					t.Fatalf("%s: %s: %s, want ErrOff alone", what, c, got)
				}
				s = comesBack(t, x, d, one.size)
				if is := valuesOf(t, what, s); is.is(behind) {
					m = behind
				}
			case isRoom(got.err) && want.err == api.OK:
			case !got.is(want):
				t.Fatalf("%s: %s: %s, want %s", what, c, got, want)
			default:
				m = behind
				if got.text != "" {
					x.shelf = append(x.shelf, got.text)
				}
			}
			holds(t, what, s, m)
		}
		tells(t, "at last", s, m)
	}
}

// comesBack has the power come back, which may go again in opening.
func comesBack(t *testing.T, x *texter, d *disk.Disk, size int) *backup.Store {
	t.Helper()
	for {
		d.Crash(one(x, keeps(x, d.Pending())...))
		d.On()
		d.Fall(x.below(12))
		s, err := backup.Open(d, size)
		if err == api.OK {
			return s
		}
		wants(t, "P20.6: Open", err, api.ErrOff)
	}
}
