package delta_test

import (
	"cmp"
	"slices"
	"testing"
	"unsafe"

	"coffer/api"
	"coffer/delta"
)

// roomy is a value whose lists have spare room with something in it; those that
// are empty too.
func (t *texter) roomy(b api.Bucket) api.Bucket {
	l := slices.Clone(b.Versions)
	for range t.below(4) {
		l = append(l, api.Version{Key: "spare", Seq: 7, Data: t.text(3), Meta: t.meta()})
	}
	for i, v := range l {
		meta := slices.Clone(v.Meta)
		for range t.below(4) {
			meta = append(meta, api.Pair{Name: "spare", Value: t.text(2)})
		}
		l[i].Meta = slices.Clip(meta)[:len(v.Meta)]
	}
	b.Versions = slices.Clip(l)[:len(b.Versions)]
	return b
}

// deep is the same value, spare room and the pairs' too, in other memory.
func deep(b api.Bucket) api.Bucket {
	l := slices.Clone(b.Versions[:cap(b.Versions)])
	for i, v := range l {
		l[i].Meta = slices.Clone(v.Meta[:cap(v.Meta)])[:len(v.Meta)]
	}
	b.Versions = l[:len(b.Versions)]
	return b
}

// unchanged: is a value as it was, in its spare room and the pairs' too?
func unchanged(b, was api.Bucket) bool {
	n := cap(b.Versions)
	return slices.EqualFunc(b.Versions[:n], was.Versions[:n], func(a, b api.Version) bool {
		return sameVersion(a, b) && slices.Equal(a.Meta[:cap(a.Meta)], b.Meta[:cap(a.Meta)])
	})
}

// scribble writes over all that a value has, spare room and the pairs' too.
func scribble(b api.Bucket) {
	for _, v := range b.Versions[:cap(b.Versions)] {
		meta := v.Meta[:cap(v.Meta)]
		for i := range meta {
			meta[i] = api.Pair{Name: "over", Value: "over"}
		}
	}
	l := b.Versions[:cap(b.Versions)]
	for i := range l {
		l[i] = api.Version{Key: "over", Seq: -77, Marker: true, Data: "over"}
	}
}

// room is a piece of memory, from one address on and below another.
type room struct{ from, to uintptr }

func roomOf[T any](l []T) room {
	var one T
	from := uintptr(unsafe.Pointer(unsafe.SliceData(l)))
	return room{from, from + uintptr(cap(l))*unsafe.Sizeof(one)}
}

// rooms are where the lists of these values lie, spare room too.
func rooms(all ...api.Bucket) []room {
	var l []room
	for _, b := range all {
		l = append(l, roomOf(b.Versions))
		for _, v := range b.Versions[:cap(b.Versions)] {
			l = append(l, roomOf(v.Meta))
		}
	}
	return l
}

// share: have any two of these any memory in common?
func share(all []room) bool {
	all = slices.DeleteFunc(all, func(r room) bool { return r.from == r.to })
	slices.SortFunc(all, func(a, b room) int { return cmp.Compare(a.from, b.from) })
	for i := 1; i < len(all); i++ {
		if all[i].from < all[i-1].to {
			return true
		}
	}
	return false
}

// handed is what a round of calls is given: two values, of which the second is
// laid on the first; either may be wrong.
func (t *texter) handed() (api.Bucket, api.Delta) {
	v := t.value(8)
	m := 1 + int64(t.number()%uint64(v.Next))
	if n := len(v.Versions); n > 0 && t.below(4) > 0 {
		m = v.Versions[t.below(n)].Seq + int64(t.below(2))
	}
	d, _ := sinceOf(v, m)
	b := olderOf(v, m)
	switch t.below(8) {
	case 0: // two that are not told apart by their numbers
		other := t.value(8)
		b = api.Bucket{Next: m, Versions: other.Versions}
	case 1:
		t.spoil(&d)
		b.Next = d.Since
	}
	return t.roomy(b), api.Delta{Since: d.Since, Bucket: t.roomy(d.Bucket)}
}

// answers is all values that the calls tell, and what they tell besides.
func answers(b api.Bucket, d api.Delta) (all []api.Bucket, rest []any) {
	for _, m := range append(around(b), d.Since) {
		got, err := delta.Since(b, m)
		all, rest = append(all, got.Bucket), append(rest, got.Since, err)
	}
	for _, value := range []api.Bucket{b, d.Bucket} {
		got, err := delta.Apply(value, d)
		all, rest = append(all, got), append(rest, err)
		// None on any, and any on none.
		got, err = delta.Apply(value, api.Delta{Since: value.Next, Bucket: api.Bucket{Next: value.Next}})
		all, rest = append(all, got), append(rest, err)
		got, err = delta.Apply(api.Bucket{Next: d.Since}, d)
		all, rest = append(all, got), append(rest, err)
	}
	s, err := delta.Encode(d)
	rest = append(rest, delta.Right(d), s, err)
	for range 2 {
		got, err := delta.Decode(s)
		all, rest = append(all, got.Bucket), append(rest, got.Since, err)
	}
	return all, rest
}

// TestHandedIn: no call changes what it is given, and none keeps it or shares it
// with what it answers; no two lists of answers share any memory either.
func TestHandedIn(t *testing.T) {
	x := &texter{8}
	for range 1000 {
		b, d := x.handed()
		wasB, wasD := deep(b), api.Delta{Since: d.Since, Bucket: deep(d.Bucket)}
		all, rest := answers(b, d)
		if !unchanged(b, wasB) || !unchanged(d.Bucket, wasD.Bucket) {
			t.Fatalf("P19.1: a call has changed %s or %s, which were %s and %s", short(b), shortDelta(d), short(wasB), shortDelta(wasD))
		}
		if share(slices.Concat(rooms(b, d.Bucket), rooms(all...))) {
			t.Fatalf("P19.1: lists of answers share memory, or with what was handed in: %s, %s", short(b), shortDelta(d))
		}
		scribble(b)
		scribble(d.Bucket)
		again, restAgain := answers(wasB, wasD)
		if !slices.EqualFunc(all, again, same) || !slices.Equal(rest, restAgain) {
			t.Fatalf("P19.1: what was answered hangs on what was handed in, or is another thing the second time, of %s, %s", short(wasB), shortDelta(wasD))
		}
	}
}

// TestOneList: where both sides are one list, and each version has the same
// pairs, what is answered has lists of its own all the same.
func TestOneList(t *testing.T) {
	meta := pairs("a", "b", "c", "d")
	l := []api.Version{data("a", 5, "", meta...), data("b", 6, "", meta...), data("c", 7, "", meta...)}
	for i := range l {
		l[i].Meta = meta
	}
	b, d := of(5, l[:1]...), since(5, 8, l...)
	laid, err := delta.Apply(b, d)
	from, sinceErr := delta.Since(d.Bucket, 5)
	if err != api.OK || sinceErr != api.OK || len(laid.Versions) != 4 || len(from.Bucket.Versions) != 3 {
		t.Fatalf("%s, %d, %s, %d", short(laid), err, shortDelta(from), sinceErr)
	}
	all := append(rooms(laid, from.Bucket), roomOf(meta), roomOf(l))
	if share(all) {
		t.Error("P19.1: lists of answers share memory, or with what was handed in")
	}
}

// TestGrowAlone: what is answered grows and is written over without touching
// what was answered besides.
func TestGrowAlone(t *testing.T) {
	x := &texter{9}
	for range 300 {
		b, d := x.handed()
		all, _ := answers(b, d)
		want, _ := answers(b, d)
		wasB, wasD := deep(b), deep(d.Bucket)
		for i, got := range all {
			_ = append(got.Versions, api.Version{Key: "one more"})
			for at := range got.Versions {
				_ = append(got.Versions[at].Meta, api.Pair{Name: "one more"})
			}
			if !slices.EqualFunc(all[i:], want[i:], same) {
				t.Fatalf("P19.1: what grows touches other lists: of %s, %s", short(b), shortDelta(d))
			}
			scribble(got)
			if !slices.EqualFunc(all[i+1:], want[i+1:], same) {
				t.Fatalf("P19.1: what is written over touches other lists: of %s, %s", short(b), shortDelta(d))
			}
		}
		if !unchanged(b, wasB) || !unchanged(d.Bucket, wasD) {
			t.Fatalf("P19.1: what grows touches what was handed in: %s, %s", short(wasB), short(wasD))
		}
	}
}
