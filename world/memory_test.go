package world_test

import (
	"cmp"
	"math"
	"slices"
	"testing"
	"unsafe"

	"coffer/api"
	"coffer/world"
)

// room is a piece of memory, from one address on and below another.
type room struct{ from, to uintptr }

func roomOf[T any](l []T) room {
	var one T
	from := uintptr(unsafe.Pointer(unsafe.SliceData(l)))
	return room{from, from + uintptr(cap(l))*unsafe.Sizeof(one)}
}

// rooms are where the lists of what was told lie, spare room too.
func rooms(a world.Told) []room {
	return []room{roomOf(a.Version.Meta), roomOf(a.Rows), roomOf(a.Names)}
}

// share: have any two of these any memory in common?
func share(all []room) bool {
	all = slices.DeleteFunc(all, func(r room) bool { return r.from == r.to })
	slices.SortFunc(all, func(a, b room) int { return cmp.Compare(a.from, b.from) })
	for i := 1; i < len(all); i++ {
		if all[i].from < all[i-1].to {
			return true
		}
	}
	return false
}

// fill writes the same over all of a list, spare room too.
func fill[T any](l []T, over T) {
	l = l[:cap(l)]
	for i := range l {
		l[i] = over
	}
}

// scribble writes over all lists of what was told, spare room too.
func scribble(a world.Told) {
	fill(a.Version.Meta, api.Pair{Name: "over", Value: "over"})
	fill(a.Rows, api.Row{Key: "over", Seq: -77})
	fill(a.Names, "over")
}

// grow puts one more behind each list of what was told.
func grow(a world.Told) {
	_ = append(a.Version.Meta, api.Pair{Name: "more"})
	_ = append(a.Rows, api.Row{Key: "more"})
	_ = append(a.Names, "more")
}

// scratch is a text in memory that is written over later.
type scratch struct{ bytes []byte }

func (s *scratch) text(text string) string {
	s.bytes = []byte(text)
	return unsafe.String(unsafe.SliceData(s.bytes), len(s.bytes))
}

// handed is a step whose lists have spare room, and whose texts and lists are
// written over later.
type handed struct {
	step  world.Step
	texts [3]scratch
	was   world.Step
}

func handIn(s world.Step) *handed {
	h := &handed{step: s, was: s}
	h.step.Bucket, h.step.Key, h.step.Data = h.texts[0].text(s.Bucket), h.texts[1].text(s.Key), h.texts[2].text(s.Data)
	h.step.Meta = append(slices.Clone(s.Meta), pairs("spare", "pair", "spare", "")...)[:len(s.Meta)]
	h.step.Kept = append(slices.Clone(s.Kept), 77, -77, 0)[:len(s.Kept)]
	h.was.Meta, h.was.Kept = slices.Clone(h.step.Meta[:cap(h.step.Meta)]), slices.Clone(h.step.Kept[:cap(h.step.Kept)])
	return h
}

// isChanged: is anything of it another than it was, spare room too?
func (h *handed) isChanged() bool {
	isChanged := !slices.Equal(h.step.Meta[:cap(h.step.Meta)], h.was.Meta) || !slices.Equal(h.step.Kept[:cap(h.step.Kept)], h.was.Kept)
	for i, text := range []string{h.was.Bucket, h.was.Key, h.was.Data} {
		isChanged = isChanged || string(h.texts[i].bytes) != text
	}
	return isChanged
}

// overwrite writes over all that was handed in.
func (h *handed) overwrite() {
	for i := range h.texts {
		fill(h.texts[i].bytes, '!')
	}
	fill(h.step.Meta, api.Pair{Name: "over", Value: "over"})
	fill(h.step.Kept, math.MaxInt)
}

// TestHandedIn: no step changes what it is given, refused or not, and none keeps
// it: lists and texts that are written over behind the step are nothing to the
// world, and to what was told.
func TestHandedIn(t *testing.T) {
	x := seed(51)
	w, m := begunWith(t, 600, 300, nil)
	for i := range 600 {
		s := x.step(m, slices.Concat(asking, []int{world.Put, world.Put, world.Import, world.Import, world.Apply, world.Apply, world.Export}), 100)
		s.Kept = []int{x.below(9), x.below(9), -1}
		h := handIn(s)
		want, behind := m.by(s)
		got := w.Do(h.step)
		if !toldSame(got, want) {
			t.Fatalf("%s: %s, want %s", said(s), toldAs(got), toldAs(want))
		}
		if h.isChanged() {
			t.Fatalf("P21.5: step %d: %s has changed what it was given", i, said(s))
		}
		h.overwrite()
		m = behind
		if !toldSame(got, want) {
			t.Fatalf("P21.5: written over behind %s what was told is %s, want %s", said(s), toldAs(got), toldAs(want))
		}
		holds(t, "P21.5: written over behind "+said(s), w, m)
		if x.below(9) == 0 {
			h := handIn(world.Step{Kind: world.Crash, Kept: []int{2, 0, 0, -1, 9}, Meta: s.Meta, Bucket: s.Bucket})
			wants(t, "P21.3: Crash", w.Do(h.step).Err, api.OK)
			if h.isChanged() {
				t.Fatalf("P21.5: step %d: Crash has changed what it was given", i)
			}
			h.overwrite()
			holds(t, "P21.5: written over behind Crash", w, m)
		}
	}
	alone(t, "P21.5", w, world.Step{Kind: world.Crash}, api.OK)
	tells(t, "P21.5: handed in", w, m)
}

// TestHandedInAndLost: nor does a step in which the power goes, nor a Crash that
// keeps some of what was pending then.
func TestHandedInAndLost(t *testing.T) {
	for n := 1; n <= 12; n++ {
		for _, s := range underWay() {
			w, m := startWorld(t)
			alone(t, "lost", w, world.Step{Kind: world.Fall, N: n}, api.OK)
			_, behind := m.by(s)
			h := handIn(s)
			got := w.Do(h.step)
			if h.isChanged() {
				t.Fatalf("P21.5: %s has changed what it was given", said(s))
			}
			h.overwrite()
			kept := []int{3, 0, 1, 0, -1, 99}
			c := handIn(world.Step{Kind: world.Crash, Kept: kept})
			alone(t, "lost", w, c.step, api.OK)
			if c.isChanged() {
				t.Fatalf("P21.5: Crash has changed what it was given")
			}
			c.overwrite()
			if is := found(t, "lost", w); !is.is(behind) && (!is.is(m) || got.Err == api.OK) {
				t.Fatalf("P21.5: written over behind %s: %s, want %s or %s", said(s), is, m, behind)
			}
		}
	}
}

// allTold is all that a world tells without exports, twice.
func allTold(w *world.World, m model) []world.Told {
	var all []world.Told
	for range 2 {
		all = append(all, w.Do(world.Step{Kind: world.Names}))
		for _, name := range m.names() {
			all = append(all, w.Do(world.Step{Kind: world.List, Bucket: name, N: 99}), w.Do(world.Step{Kind: world.Versions, Bucket: name, N: 99}))
			for _, v := range m.values[name].Versions {
				all = append(all, w.Do(world.Step{Kind: world.Get, Bucket: name, Key: v.Key}), w.Do(world.Step{Kind: world.GetVersion, Bucket: name, Key: v.Key, Seq: v.Seq}))
			}
		}
	}
	return all
}

// TestToldMemory: lists that are told are new memory, no two share any; written
// over, or grown, they are nothing to each other, and to the world.
func TestToldMemory(t *testing.T) {
	x := seed(52)
	for range 20 {
		w, m := begunWith(t, 600, 300, map[string]api.Bucket{"a": x.from(1, 12, 40), "b": x.from(1, 5, 40), "c": of(1), "d": of(5, v("k", 1), v("k", 3))})
		m = answers(t, "told", w, m, world.Step{Kind: world.Export, Bucket: "a"})
		all, again := allTold(w, m), allTold(w, m)
		taken := []room{roomOf(w.Shelf()), roomOf(w.Shelf())}
		for _, a := range slices.Concat(all, again) {
			taken = append(taken, rooms(a)...)
		}
		if share(taken) {
			t.Fatalf("P21.5: lists that are told share memory: %s", m)
		}
		for i, a := range all {
			grow(a)
			if !slices.EqualFunc(all[i:], again[i:], toldSame) {
				t.Fatalf("P21.5: what grows touches other lists: %s", m)
			}
			scribble(a)
			if !slices.EqualFunc(all[i+1:], again[i+1:], toldSame) {
				t.Fatalf("P21.5: what is written over touches other lists: %s", m)
			}
		}
		if !slices.EqualFunc(allTold(w, m), again, toldSame) {
			t.Fatalf("P21.5: what was told is kept: %s", m)
		}
		// m has none of the lists that were told by steps.
		tells(t, "P21.5: told", w, m)
	}
}

// TestWorldsApart: two worlds in turns have nothing to do with one another: their
// buckets, their shelves and their power.
func TestWorldsApart(t *testing.T) {
	x := seed(53)
	var worlds [2]*world.World
	var models [2]model
	for i := range worlds {
		worlds[i] = begun(t, 300, 150)
	}
	if worlds[0].Disk() == worlds[1].Disk() || worlds[0].Store() == worlds[1].Store() {
		t.Fatalf("P21.5: two worlds have one disk, or one store")
	}
	for range 800 {
		i := x.below(2)
		w, other := worlds[i], worlds[1-i]
		if x.below(20) == 0 && len(models[i].values) < 8 {
			falls(t, w)
			isDown(t, "P21.5: the one", w, models[i].shelf)
			holds(t, "P21.5: the other", other, models[1-i])
			models[1-i], _ = answersForRoom(t, "P21.5", other, models[1-i], x.step(models[1-i], asking, 100))
			alone(t, "P21.5", w, world.Step{Kind: world.Crash, Kept: []int{0}}, api.OK)
		}
		models[i], _ = answersForRoom(t, "P21.5", w, models[i], x.step(models[i], asking, 100))
		holds(t, "P21.5: the one", w, models[i])
		holds(t, "P21.5: the other", other, models[1-i])
	}
}
