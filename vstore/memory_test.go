package vstore_test

import (
	"cmp"
	"slices"
	"testing"
	"unsafe"

	"coffer/api"
	"coffer/vstore"
)

// room is a piece of memory, from one address on and below another.
type room struct{ from, to uintptr }

func roomOf[T any](l []T) room {
	var one T
	from := uintptr(unsafe.Pointer(unsafe.SliceData(l)))
	return room{from, from + uintptr(cap(l))*unsafe.Sizeof(one)}
}

// rooms are where a value's lists lie, spare room too.
func rooms(b api.Bucket) []room {
	all := []room{roomOf(b.Versions)}
	for _, v := range b.Versions[:cap(b.Versions)] {
		all = append(all, roomOf(v.Meta))
	}
	return all
}

// rooms are where the lists of an answer lie.
func (a told) rooms() []room {
	return append(rooms(a.value), roomOf(a.version.Meta), roomOf(a.rows), roomOf(a.names))
}

// share: have any two of these any memory in common?
func share(all []room) bool {
	all = slices.DeleteFunc(all, func(r room) bool { return r.from == r.to })
	slices.SortFunc(all, func(a, b room) int { return cmp.Compare(a.from, b.from) })
	for i := 1; i < len(all); i++ {
		if all[i].from < all[i-1].to {
			return true
		}
	}
	return false
}

// deep is the same value, spare room and the pairs' too, in other memory.
func deep(b api.Bucket) api.Bucket {
	whole := slices.Clone(b.Versions[:cap(b.Versions)])
	for i, v := range whole {
		whole[i].Meta = slices.Clone(v.Meta[:cap(v.Meta)])[:len(v.Meta)]
	}
	return api.Bucket{Next: b.Next, Versions: whole[:len(b.Versions)]}
}

// unchanged: is a value as it was, in its spare room and the pairs' too?
func unchanged(b, was api.Bucket) bool {
	n := cap(b.Versions)
	return b.Next == was.Next && slices.EqualFunc(b.Versions[:n], was.Versions[:n], func(a, b api.Version) bool {
		whole := slices.Equal(a.Meta[:cap(a.Meta)], b.Meta[:cap(a.Meta)])
		return whole && len(a.Meta) == len(b.Meta) && a.Key == b.Key && a.Seq == b.Seq && a.Marker == b.Marker && a.Data == b.Data
	})
}

// roomyPairs are pairs whose spare room has something in it.
func (t *texter) roomyPairs(l []api.Pair) []api.Pair {
	whole := slices.Clone(l)
	for range 1 + t.below(3) {
		whole = append(whole, api.Pair{Name: "spare", Value: t.text(2)})
	}
	return slices.Clip(whole)[:len(l)]
}

// roomy is a value whose lists' spare room has something in it.
func (t *texter) roomy(b api.Bucket) api.Bucket {
	whole := slices.Clone(b.Versions)
	for range 1 + t.below(4) {
		whole = append(whole, api.Version{Key: "spare", Seq: 7, Data: t.text(3), Meta: t.meta()})
	}
	for i, v := range whole {
		whole[i].Meta = t.roomyPairs(v.Meta)
	}
	return api.Bucket{Next: b.Next, Versions: slices.Clip(whole)[:len(b.Versions)]}
}

// scribble writes over all that a value has, spare room and the pairs' too.
func scribble(b api.Bucket) {
	l := b.Versions[:cap(b.Versions)]
	for i := range l {
		scribblePairs(l[i].Meta)
		l[i] = api.Version{Key: "over", Seq: -77, Marker: true, Data: "over"}
	}
}

func scribblePairs(l []api.Pair) {
	l = l[:cap(l)]
	for i := range l {
		l[i] = api.Pair{Name: "over", Value: "over"}
	}
}

// scribble writes over all lists of an answer, spare room too.
func (a told) scribble() {
	scribble(a.value)
	scribblePairs(a.version.Meta)
	for i := range a.rows[:cap(a.rows)] {
		a.rows[:cap(a.rows)][i] = api.Row{Key: "over", Seq: -77}
	}
	for i := range a.names[:cap(a.names)] {
		a.names[:cap(a.names)][i] = "over"
	}
}

// grow puts one more behind each list of an answer.
func (a told) grow() {
	_ = append(a.value.Versions, api.Version{Key: "more"})
	for _, v := range a.value.Versions {
		_ = append(v.Meta, api.Pair{Name: "more"})
	}
	_ = append(a.version.Meta, api.Pair{Name: "more"})
	_ = append(a.rows, api.Row{Key: "more"})
	_ = append(a.names, "more")
}

// lists is all that tells lists of a store.
func lists(s *vstore.Store, m model) []told {
	all := []told{call{kind: "Names"}.ask(s), call{kind: "Names"}.ask(s)}
	for _, name := range m.names() {
		for range 2 {
			all = append(all, call{kind: "Value", name: name}.ask(s), call{kind: "List", name: name, most: 9}.ask(s), call{kind: "Versions", name: name, most: 99}.ask(s))
		}
		for _, v := range m[name].Versions {
			all = append(all, call{kind: "Get", name: name, key: v.Key}.ask(s), call{kind: "GetVersion", name: name, key: v.Key, seq: v.Seq}.ask(s))
		}
	}
	return all
}

// TestHandedIn: no call changes what it is given, refused or not, and none keeps
// it: written over behind the call it is nothing to the store.
func TestHandedIn(t *testing.T) {
	x := &texter{51}
	d, s := laid(t, 600, 300, nil)
	m := model{}
	for step := range 400 {
		c := x.call(m, []string{"Put", "Put", "Set", "Replace", "Drop", "Make"}, 100)
		c.meta, c.value = x.roomyPairs(c.meta), x.roomy(c.value)
		own := c
		own.meta, own.value = slices.Clone(c.meta[:cap(c.meta)])[:len(c.meta)], deep(c.value)
		want, behind := own.by(m)
		if got := c.ask(s); !got.is(want) {
			t.Fatalf("%s: %s, want %s", c, got, want)
		}
		if !unchanged(c.value, own.value) || !slices.Equal(c.meta[:cap(c.meta)], own.meta[:cap(own.meta)]) {
			t.Fatalf("P16.7: step %d: %s has changed what it was given", step, c)
		}
		m = behind
		scribble(c.value)
		scribblePairs(c.meta)
		holds(t, "P16.7: written over behind "+c.String(), s, m)
	}
	tells(t, "P16.7: handed in", opens(t, "handed in", d, 300), m)
}

// TestAnswered: lists of answers are new memory, no two share any; written over,
// or grown, they are nothing to each other and to the store.
func TestAnswered(t *testing.T) {
	x := &texter{52}
	for range 20 {
		m := model{"a": x.value(12, 40), "b": x.value(5, 40), "c": of(1), "d": of(5, v("k", 1), v("k", 3))}
		d, s := laid(t, 600, 300, m)
		all, again := lists(s, m), lists(s, m)
		var taken []room
		for _, a := range slices.Concat(all, again) {
			taken = append(taken, a.rooms()...)
		}
		if share(taken) {
			t.Fatalf("P16.7: lists of answers share memory: %s", m)
		}
		for i, a := range all {
			a.grow()
			if !slices.EqualFunc(all[i:], again[i:], told.is) {
				t.Fatalf("P16.7: what grows touches other lists: %s", m)
			}
			a.scribble()
			if !slices.EqualFunc(all[i+1:], again[i+1:], told.is) {
				t.Fatalf("P16.7: what is written over touches other lists: %s", m)
			}
		}
		if !slices.EqualFunc(lists(s, m), again, told.is) {
			t.Fatalf("P16.7: what was answered is kept: %s", m)
		}
		tells(t, "P16.7: answered", opens(t, "answered", d, 300), m)
	}
}

// TestValueHandedOn: the value of one bucket, set as another's, is nothing to
// the first one.
func TestValueHandedOn(t *testing.T) {
	m := model{"a": of(9, v("j", 2), gone("j", 5), v("k", 7))}
	_, s := laid(t, 600, 300, m)
	b, err := s.Value("a")
	wants(t, "Value", err, api.OK)
	wants(t, "Set", s.Set("b", b), api.OK)
	scribble(b)
	m = m.with("b", m["a"])
	m = answers(t, "P16.7", s, m, call{kind: "Put", name: "b", key: "k", data: "more"})
	m = answers(t, "P16.7", s, m, call{kind: "DeleteVersion", name: "a", key: "j", seq: 2})
	tells(t, "P16.7: handed on", s, m)
}
