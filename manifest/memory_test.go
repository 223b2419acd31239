package manifest_test

import (
	"fmt"
	"slices"
	"testing"
	"unsafe"

	"coffer/api"
	"coffer/manifest"
)

// pairRoom is a list of pairs with spare room that isn't zero.
func pairRoom(l []api.Pair, spare int) []api.Pair {
	room := slices.Clone(l)
	for i := range spare {
		room = append(room, api.Pair{Name: fmt.Sprint("spare", i), Value: "room"})
	}
	return room[:len(l)]
}

// roomy is a manifest whose lists have spare room that isn't zero.
func roomy(m whole) whole {
	l := slices.Clone(m.Items)
	for i := range l {
		l[i].Meta = pairRoom(l[i].Meta, 3)
	}
	l = append(l, gone("spare", 77), data("spare", 78, 9, pairs("a", "b")...))
	m.Items = l[:len(m.Items)]
	return m
}

// allItems and allPairs are lists with their spare room.
func allItems(l []item) []item         { return l[:cap(l)] }
func allPairs(l []api.Pair) []api.Pair { return l[:cap(l)] }

// deep is a copy of a manifest, spare room too.
func deep(m whole) whole {
	l := slices.Clone(allItems(m.Items))
	for i := range l {
		n := len(l[i].Meta)
		l[i].Meta = slices.Clone(allPairs(l[i].Meta))[:n]
	}
	m.Items = l[:len(m.Items)]
	return m
}

// sameDeep: are two manifests the same, spare room too?
func sameDeep(a, b whole) bool {
	return a.Since == b.Since && a.Next == b.Next && len(a.Items) == len(b.Items) && slices.EqualFunc(allItems(a.Items), allItems(b.Items), func(a, b item) bool {
		n := min(cap(a.Meta), cap(b.Meta))
		return sameItem(a, b) && slices.Equal(a.Meta[:n], b.Meta[:n])
	})
}

// TestWriteLeavesIt: what is handed in to Write stays as it is, spare room too,
// and isn't kept.
func TestWriteLeavesIt(t *testing.T) {
	x := &texter{6}
	for range 500 {
		m := x.right(6)
		if x.below(2) == 0 {
			x.spoil(&m)
		}
		m = roomy(m)
		before := deep(m)
		text, err := manifest.Write(m)
		if !sameDeep(m, before) {
			t.Fatalf("P17.1: Write made %s of %s", short(m), short(before))
		}
		l := allItems(m.Items)
		for i := range l {
			p := allPairs(l[i].Meta)
			for j := range p {
				p[j] = api.Pair{Name: "other", Value: "other"}
			}
			l[i] = item{Key: "other"}
		}
		if again, errAgain := manifest.Write(before); again != text || errAgain != err {
			t.Fatalf("P17.1: Write tells %.300q, %d, then %.300q, %d", text, err, again, errAgain)
		}
	}
}

// region is where in memory a list lies.
type region struct{ from, to uintptr }

func itemRegion(l []item) region {
	from := uintptr(unsafe.Pointer(unsafe.SliceData(l)))
	return region{from, from + uintptr(cap(l))*unsafe.Sizeof(item{})}
}

func pairRegion(l []api.Pair) region {
	from := uintptr(unsafe.Pointer(unsafe.SliceData(l)))
	return region{from, from + uintptr(cap(l))*unsafe.Sizeof(api.Pair{})}
}

// regions are those of all lists of a manifest that have any room.
func regions(m whole) []region {
	var l []region
	if cap(m.Items) > 0 {
		l = append(l, itemRegion(m.Items))
	}
	for _, x := range m.Items {
		if cap(x.Meta) > 0 {
			l = append(l, pairRegion(x.Meta))
		}
	}
	return l
}

// wantApart: no two of these lie in one another.
func wantApart(t *testing.T, what string, l []region) {
	t.Helper()
	for i, a := range l {
		for _, b := range l[i+1:] {
			if a.from < b.to && b.from < a.to {
				t.Fatalf("P17.1: %s: two lists share memory", what)
			}
		}
	}
}

// TestOfMemory: what is handed in to Of stays as it is, spare room too, isn't
// kept, and what is answered shares no list with it.
func TestOfMemory(t *testing.T) {
	x := &texter{7}
	for range 500 {
		b := x.bucket(0, 6)
		versions := slices.Clone(b.Versions)
		for i := range versions {
			versions[i].Meta = pairRoom(versions[i].Meta, 2)
		}
		room := append(versions, api.Version{Key: "spare"}, api.Version{Key: "room", Meta: pairs("a", "b")})
		given := api.Bucket{Next: b.Next, Versions: room[:len(b.Versions)]}
		since := int64(x.below(2))
		m, err := manifest.Of(given, since)
		for i, v := range b.Versions {
			w := given.Versions[i]
			full := w.Meta[:len(w.Meta)+2]
			if w.Key != v.Key || w.Seq != v.Seq || w.Data != v.Data || !slices.Equal(w.Meta, v.Meta) || full[len(w.Meta)].Name != "spare0" || full[len(w.Meta)+1].Name != "spare1" {
				t.Fatalf("P17.1: Of made %v of %v", w, v)
			}
		}
		if room[len(b.Versions)].Key != "spare" || room[len(b.Versions)+1].Key != "room" {
			t.Fatal("P17.1: Of changed the spare room of the versions")
		}
		all := regions(m)
		for _, v := range given.Versions {
			all = append(all, pairRegion(v.Meta[:len(v.Meta)+2]))
		}
		again, _ := manifest.Of(given, since)
		wantApart(t, "Of", append(all, regions(again)...))
		for i := range given.Versions {
			p := allPairs(given.Versions[i].Meta)
			for j := range p {
				p[j] = api.Pair{Name: "other", Value: "other"}
			}
			given.Versions[i] = api.Version{Key: "other"}
		}
		if want, wantErr := ofOf(b, since); !same(m, want) || err != wantErr {
			t.Fatalf("P17.1: what Of answered hangs on what was handed in: %s, want %s", short(m), short(want))
		}
	}
}

// TestReadMemory: lists that Read answers are new memory, each of its own, and
// grow without touching others.
func TestReadMemory(t *testing.T) {
	x := &texter{8}
	for range 500 {
		want := x.right(6)
		text := textOf(lines(want))
		first, _, _ := manifest.Read(text)
		second, _, _ := manifest.Read(text)
		wantApart(t, "Read", append(regions(first), regions(second)...))
		for i := range first.Items {
			first.Items[i].Meta = append(first.Items[i].Meta, api.Pair{Name: "one more"}, api.Pair{Name: "two more"})
			if got := deep(first); len(got.Items) > i+1 && !sameItem(got.Items[i+1], want.Items[i+1]) {
				t.Fatalf("P17.1: item %d's metadata grew into the next item", i)
			}
		}
		first.Items = append(first.Items, gone("one more", 1))
		for i := range first.Items {
			first.Items[i] = item{Key: "other"}
		}
		third, _, _ := manifest.Read(text)
		if !same(second, want) || !same(third, want) {
			t.Fatalf("P17.1: behind a change of what was answered Read tells %s and %s, want %s", short(second), short(third), short(want))
		}
	}
}

// within: does a text lie in the memory of another?
func within(part, whole string) bool {
	if part == "" || whole == "" {
		return false
	}
	at, from := uintptr(unsafe.Pointer(unsafe.StringData(part))), uintptr(unsafe.Pointer(unsafe.StringData(whole)))
	return at >= from && at < from+uintptr(len(whole))
}

// TestReadKeepsNothing: what Read answers doesn't keep the text.
func TestReadKeepsNothing(t *testing.T) {
	for _, m := range samples() {
		text := textOf(lines(m))
		got, _, _ := manifest.Read(text)
		for _, x := range got.Items {
			kept := within(x.Key, text)
			for _, p := range x.Meta {
				kept = kept || within(p.Name, text) || within(p.Value, text)
			}
			if kept {
				t.Errorf("P17.1: item %q of what Read answers keeps the text that was handed in", x.Key)
			}
		}
	}
}
