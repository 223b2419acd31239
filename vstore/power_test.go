package vstore_test

import (
	"fmt"
	"slices"
	"strings"
	"testing"

	"coffer/api"
	"coffer/disk"
	"coffer/vstore"
)

func chosen(count int, is func(i int) bool) []int {
	var list []int
	for i := range count {
		if is(i) {
			list = append(list, i)
		}
	}
	return list
}

// keeps are the choices of pending writes that a crash keeps: all there are
// where they are few, else some.
func keeps(x *texter, pending int) [][]int {
	var lists [][]int
	if pending <= 4 {
		for choice := range 1 << pending {
			lists = append(lists, chosen(pending, func(i int) bool { return choice>>i&1 == 1 }))
		}
		return lists
	}
	lists = append(lists, nil, chosen(pending, func(int) bool { return true }))
	at := x.below(pending)
	for _, is := range []func(i int) bool{
		func(i int) bool { return i < at }, func(i int) bool { return i >= at }, func(i int) bool { return i == at }, func(i int) bool { return i != at },
		func(i int) bool { return i == 0 }, func(i int) bool { return i != 0 }, func(i int) bool { return i == pending-1 }, func(i int) bool { return i != pending-1 },
		func(int) bool { return x.below(2) == 0 }, func(int) bool { return x.below(2) == 0 },
	} {
		lists = append(lists, chosen(pending, is))
	}
	return lists
}

// crashed is a disk behind a crash of another one, on again.
func crashed(d *disk.Disk, kept []int) *disk.Disk {
	c := d.Copy()
	c.Crash(kept)
	c.On()
	return c
}

// isDead: a store answers ErrOff, or nothing, to whatever it is asked.
func isDead(t *testing.T, what string, s *vstore.Store) {
	t.Helper()
	for _, kind := range slices.Concat(looks, changes) {
		for _, name := range []string{"a", "none", "A", ""} {
			for _, key := range []string{"k", ""} {
				c := call{kind: kind, name: name, key: key, data: strings.Repeat("d", 1024+len(key)), seq: 1, most: 9, value: of(int64(len(key)))}
				want := told{err: api.ErrOff}
				if kind == "Names" {
					want.err = 0
				}
				if got := c.ask(s); !got.is(want) {
					t.Fatalf("%s: P16.3: %s of a dead store: %s, want %s", what, c, got, want)
				}
			}
		}
	}
}

// fallsIn has the power go at each of the disk's calls within a call in turn, and
// calls tell with each disk that may be there behind it. It is how many there
// are, and the disk behind the call when the power stays.
func fallsIn(t *testing.T, x *texter, start *disk.Disk, size int, c call, tell func(what string, d *disk.Disk)) (int, *disk.Disk) {
	t.Helper()
	m := valuesOf(t, "the start", opens(t, "the start", start.Copy(), size))
	want, _ := c.by(m)
	for n := 1; ; n++ {
		d := start.Copy()
		s := opens(t, "the start", d, size)
		d.Fall(n)
		got := c.ask(s)
		if !d.Off() {
			if !got.is(want) || d.Pending() != 0 {
				t.Fatalf("P16.3: %s: %s, want %s; %d are pending", c, got, want, d.Pending())
			}
			d.Fall(0)
			return n - 1, d
		}
		what := fmt.Sprintf("%s, the power goes at the disk's call %d", c, n)
		if !got.is(told{err: api.ErrOff}) {
			t.Fatalf("P16.3: %s: %s, want ErrOff alone", what, got)
		}
		isDead(t, what, s)
		for _, kept := range keeps(x, d.Pending()) {
			tell(fmt.Sprint(what, ", kept ", kept), crashed(d, kept))
		}
		d.Crash(nil)
		d.On()
		isDead(t, what+", and comes back", s)
	}
}

// start is a store on a small disk, and what it holds.
func start(t *testing.T) (*disk.Disk, model) {
	t.Helper()
	m := model{"a": filled(9, 2500, 3), "b": of(9, v("j", 2), gone("j", 5), v("k", 1), v("k", 7)), "c": of(1), "other": of(2, v("k", 1))}
	d, _ := laid(t, 180, 90, m)
	return d, m
}

// underWay are calls of each kind, small and great.
func underWay() []call {
	return []call{
		{kind: "Make", name: "d"},
		{kind: "Drop", name: "a"},
		{kind: "Drop", name: "c"},
		{kind: "Put", name: "b", key: "k", data: "new"},
		{kind: "Put", name: "c", key: "first", data: strings.Repeat("d", 1024), meta: pairs(api.Pair{Name: "a", Value: "b"})},
		{kind: "Put", name: "a", key: "001", data: strings.Repeat("d", 90)},
		{kind: "Delete", name: "b", key: "k"},
		{kind: "DeleteVersion", name: "b", key: "j", seq: 5},
		{kind: "DeleteVersion", name: "a", key: "003", seq: 4},
		{kind: "Set", name: "d", value: filled(20, 4000, 3)},
		{kind: "Replace", name: "a", value: filled(20, 4000, 4)},
		{kind: "Replace", name: "b", value: of(9)},
	}
}

// TestPower: wherever the power goes in a call, and whatever is kept, the store
// is the one ahead of the call, or the one behind it, whole; and goes on.
func TestPower(t *testing.T) {
	x := &texter{31}
	d, m := start(t)
	for _, c := range underWay() {
		_, behind := c.by(m)
		old, new := 0, 0
		calls, after := fallsIn(t, x, d, 90, c, func(what string, d *disk.Disk) {
			s := opens(t, "P16.3: "+what, d, 90)
			is := valuesOf(t, what, s)
			switch {
			case is.is(m):
				old++
			case is.is(behind):
				new++
			default:
				t.Fatalf("P16.3: %s: %s, want %s or %s", what, is, m, behind)
			}
			holds(t, "P16.4: "+what, opens(t, what, d, 90), is)
			if (old+new)%10 == 0 {
				tells(t, what, s, is)
			}
			is = answers(t, what, s, is, call{kind: "Put", name: "other", key: "more", data: "more"})
			holds(t, "P16.3: on behind "+what, opens(t, what, d, 90), is)
		})
		if old == 0 || new == 0 || calls < 4 {
			t.Errorf("P16.3: %s: as it was %d times, as it is %d times, %d of the disk's calls", c, old, new, calls)
		}
		holds(t, "P16.3: "+c.String(), opens(t, c.String(), after, 90), behind)
	}
}

// TestPowerAgain: wherever the power goes in opening behind a crash, and whatever
// is kept, the store is the same as if it had not.
func TestPowerAgain(t *testing.T) {
	x := &texter{32}
	d, m := start(t)
	fallen := 0
	for _, c := range underWay() {
		_, behind := c.by(m)
		fallsIn(t, x, d, 90, c, func(what string, d *disk.Disk) {
			if x.below(20) > 0 {
				return
			}
			is := valuesOf(t, what, opens(t, what, d.Copy(), 90))
			for n := 1; ; n++ {
				again := d.Copy()
				again.Fall(n)
				s, err := vstore.Open(again, 90)
				if err == api.OK {
					break
				}
				fallen++
				if s != nil || err != api.ErrOff || !again.Off() {
					t.Fatalf("P16.3: %s, and at %d of Open: %v, %d, off %v", what, n, s, err, again.Off())
				}
				for _, kept := range keeps(x, again.Pending()) {
					got := valuesOf(t, what, opens(t, what, crashed(again, kept), 90))
					if !got.is(is) || !got.is(m) && !got.is(behind) {
						t.Fatalf("P16.3: %s, and at %d of Open: %s, want %s", what, n, got, is)
					}
				}
			}
		})
	}
	if fallen == 0 {
		t.Errorf("the power never went in Open")
	}
}

// TestPowerAtFirst: wherever the power goes in the very first opening, and
// whatever is kept, and so in the next ones, the store is opened, and empty.
func TestPowerAtFirst(t *testing.T) {
	x := &texter{33}
	for _, one := range []struct{ sectors, size int }{{12, 8}, {9, 5}, {60, 20}, {8192, 2048}} {
		disks := []*disk.Disk{newDisk(t, one.sectors)}
		for round := range 3 {
			var next []*disk.Disk
			for _, d := range disks {
				for n := 1; ; n++ {
					what := fmt.Sprintf("%v, round %d, the power goes at the disk's call %d", one, round, n)
					c := d.Copy()
					c.Fall(n)
					s, err := vstore.Open(c, one.size)
					if err == api.OK {
						break
					}
					if s != nil || err != api.ErrOff || !c.Off() {
						t.Fatalf("P16.3: %s: %v, %d, off %v", what, s, err, c.Off())
					}
					for _, kept := range keeps(x, c.Pending()) {
						behind := crashed(c, kept)
						next = append(next, behind.Copy())
						s := opens(t, "P16.3: "+what, behind, one.size)
						holds(t, "P16.3: "+what, s, model{})
						wants(t, "P16.3: "+what+": Make", s.Make("a"), api.OK)
					}
				}
			}
			if len(next) == 0 {
				t.Fatalf("P16.3: %v: the power never went", one)
			}
			disks = nil
			for range 6 {
				disks = append(disks, next[x.below(len(next))])
			}
		}
	}
}

// TestDead: a store is dead from the first ErrOff on, wherever the power went,
// and stays so when it comes back; what was opened anew isn't.
func TestDead(t *testing.T) {
	d, m := start(t)
	s := opens(t, "dead", d, 90)
	d.Crash(nil)
	isDead(t, "the disk is off", s)
	d.On()
	isDead(t, "the disk was off", s)
	tells(t, "opened anew", opens(t, "opened anew", d, 90), m)
	for _, kind := range slices.Concat(looks, changes) {
		d := d.Copy()
		s := opens(t, "dead", d, 90)
		d.Crash(nil)
		c := call{kind: kind, name: "b", key: "k", seq: 1, most: 9, value: of(1)}
		if got := c.ask(s); got.err != api.ErrOff && kind != "Names" || !got.is(told{err: got.err}) {
			t.Errorf("P16.3: %s of a disk that is off: %s", c, got)
		}
		d.On()
		isDead(t, kind+" of a disk that was off", s)
		holds(t, "P16.3: opened anew", opens(t, "opened anew", d, 90), m)
	}
}

// TestLooksAskNothing: calls that change nothing, and those that are refused,
// ask nothing of the disk that the power could go at.
func TestLooksAskNothing(t *testing.T) {
	x := &texter{34}
	d, m := start(t)
	s := opens(t, "looks", d, 90)
	d.Fall(1)
	for range 300 {
		c := x.call(m, slices.Concat(looks, changes), 100)
		if want, _ := c.by(m); want.err != api.OK || slices.Contains(looks, c.kind) {
			answers(t, "looks", s, m, c)
		}
	}
	for name, b := range m {
		answers(t, "nothing new", s, m, call{kind: "Replace", name: name, value: b})
	}
	holds(t, "P16.2: looks", s, m)
	if d.Off() {
		t.Errorf("P16.2: the power went")
	}
}

// TestPowerWalk: a long life in which the power goes again and again, in calls
// and in opening.
func TestPowerWalk(t *testing.T) {
	for seed, one := range []struct{ sectors, size int }{{8192, 2048}, {200, 100}, {60, 30}, {40, 9}} {
		x := &texter{uint64(40 + seed)}
		d := newDisk(t, one.sectors)
		s := opens(t, "a life", d, one.size)
		m := model{}
		for step := range 400 {
			what := fmt.Sprintf("P16.3: %v, step %d", one, step)
			d.Fall(x.below(60))
			c := x.call(m, slices.Concat(changes, []string{"Put", "Put", "Names"}), 300)
			want, behind := c.by(m)
			got := c.ask(s)
			switch {
			case d.Off():
				if !got.is(told{err: api.ErrOff}) {
					t.Fatalf("%s: %s: %s, want ErrOff alone", what, c, got)
				}
				s = comesBack(t, x, d, one.size)
				if is := valuesOf(t, what, s); is.is(behind) {
					m = behind
				}
			case isRoom(got.err) && want.err == api.OK:
			case !got.is(want):
				t.Fatalf("%s: %s: %s, want %s", what, c, got, want)
			default:
				m = behind
			}
			holds(t, what, s, m)
		}
		tells(t, "at last", s, m)
	}
}

// comesBack has the power come back, which may go again in opening.
func comesBack(t *testing.T, x *texter, d *disk.Disk, size int) *vstore.Store {
	t.Helper()
	for {
		d.Crash(one(x, keeps(x, d.Pending())...))
		d.On()
		d.Fall(x.below(12))
		s, err := vstore.Open(d, size)
		if err == api.OK {
			return s
		}
		wants(t, "P16.3: Open", err, api.ErrOff)
	}
}
