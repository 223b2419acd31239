package backup_test

import (
	"cmp"
	"slices"
	"sync"
	"testing"
	"unsafe"

	"coffer/api"
	"coffer/backup"
)

// room is a piece of memory, from one address on and below another.
type room struct{ from, to uintptr }

func roomOf[T any](l []T) room {
	var one T
	from := uintptr(unsafe.Pointer(unsafe.SliceData(l)))
	return room{from, from + uintptr(cap(l))*unsafe.Sizeof(one)}
}

// rooms are where the lists of an answer lie, spare room too.
func (a told) rooms() []room {
	all := []room{roomOf(a.version.Meta), roomOf(a.rows), roomOf(a.names), roomOf(a.value.Versions)}
	for _, v := range a.value.Versions[:cap(a.value.Versions)] {
		all = append(all, roomOf(v.Meta))
	}
	return all
}

// share: have any two of these any memory in common?
func share(all []room) bool {
	all = slices.DeleteFunc(all, func(r room) bool { return r.from == r.to })
	slices.SortFunc(all, func(a, b room) int { return cmp.Compare(a.from, b.from) })
	for i := 1; i < len(all); i++ {
		if all[i].from < all[i-1].to {
			return true
		}
	}
	return false
}

// fill writes the same over all of a list, spare room too.
func fill[T any](l []T, over T) {
	l = l[:cap(l)]
	for i := range l {
		l[i] = over
	}
}

// scribble writes over all lists of an answer, spare room too.
func (a told) scribble() {
	over := api.Pair{Name: "over", Value: "over"}
	fill(a.version.Meta, over)
	for _, v := range a.value.Versions[:cap(a.value.Versions)] {
		fill(v.Meta, over)
	}
	fill(a.value.Versions, api.Version{Key: "over", Seq: -77, Marker: true, Data: "over"})
	fill(a.rows, api.Row{Key: "over", Seq: -77})
	fill(a.names, "over")
}

// grow puts one more behind each list of an answer.
func (a told) grow() {
	_ = append(a.value.Versions, api.Version{Key: "more"})
	for _, v := range a.value.Versions {
		_ = append(v.Meta, api.Pair{Name: "more"})
	}
	_ = append(a.version.Meta, api.Pair{Name: "more"})
	_ = append(a.rows, api.Row{Key: "more"})
	_ = append(a.names, "more")
}

// scratch is a text in memory that is written over later.
type scratch struct{ bytes []byte }

func (s *scratch) text(text string) string {
	s.bytes = []byte(text)
	return unsafe.String(unsafe.SliceData(s.bytes), len(s.bytes))
}

// TestHandedIn: no call changes what it is given, refused or not, and none keeps
// it: lists and texts, archives too, that are written over behind the call are
// nothing to the store, and to what was answered.
func TestHandedIn(t *testing.T) {
	x := seed(51)
	d, s := laid(t, 600, 300, nil)
	m := model{}
	for step := range 500 {
		c := x.call(m, slices.Concat(kinds, []string{"Put", "Put", "Import", "Import", "Apply", "Apply", "Apply"}), 100)
		var texts [4]scratch
		handed := c
		handed.name, handed.key, handed.data, handed.text = texts[0].text(c.name), texts[1].text(c.key), texts[2].text(c.data), texts[3].text(c.text)
		handed.meta = append(slices.Clone(c.meta), pairs("spare", x.text(2), "spare", "")...)[:len(c.meta)]
		was := slices.Clone(handed.meta[:cap(handed.meta)])
		want, behind := c.by(m)
		got := handed.ask(s)
		if !got.is(want) {
			t.Fatalf("%s: %s, want %s", c, got, want)
		}
		isChanged := !slices.Equal(handed.meta[:cap(handed.meta)], was)
		for i, text := range []string{c.name, c.key, c.data, c.text} {
			isChanged = isChanged || string(texts[i].bytes) != text
			fill(texts[i].bytes, '!')
		}
		if isChanged {
			t.Fatalf("P20.7: step %d: %s has changed what it was given", step, c)
		}
		fill(handed.meta, api.Pair{Name: "over", Value: "over"})
		m = behind
		if !got.is(want) {
			t.Fatalf("P20.7: written over behind %s the answer is %s, want %s", c, got, want)
		}
		holds(t, "P20.7: written over behind "+c.String(), s, m)
	}
	tells(t, "P20.7: handed in", opens(t, "handed in", d, 300), m)
}

// lists is all that a store tells.
func lists(s *backup.Store, m model) []told {
	all := []told{call{kind: "Names"}.ask(s), call{kind: "Names"}.ask(s)}
	for _, name := range m.names() {
		for _, kind := range []string{"Value", "List", "Versions", "Export", "ExportSince", "Value"} {
			all = append(all, call{kind: kind, name: name, most: 99, seq: 1}.ask(s))
		}
		for _, v := range m[name].Versions {
			all = append(all, call{kind: "Get", name: name, key: v.Key}.ask(s), call{kind: "GetVersion", name: name, key: v.Key, seq: v.Seq}.ask(s))
		}
	}
	return all
}

// TestAnswered: lists of answers are new memory, no two share any; written over,
// or grown, they are nothing to each other and to the store.
func TestAnswered(t *testing.T) {
	x := seed(52)
	for range 20 {
		b := x.from(1, 12, 40)
		d, s := laid(t, 600, 300, model{"a": b, "b": x.from(1, 5, 40), "c": of(1), "d": of(5, v("k", 1), v("k", 3))})
		m := valuesOf(t, "answered", s)
		m = answers(t, "answered", s, m, call{kind: "Apply", name: "a", text: packed(of(b.Next+9, v("j", b.Next+3), v("k", b.Next)), b.Next)})
		all, again := lists(s, m), lists(s, m)
		var taken []room
		for _, a := range slices.Concat(all, again) {
			taken = append(taken, a.rooms()...)
		}
		if share(taken) {
			t.Fatalf("P20.7: lists of answers share memory: %s", m)
		}
		for i, a := range all {
			a.grow()
			if !slices.EqualFunc(all[i:], again[i:], told.is) {
				t.Fatalf("P20.7: what grows touches other lists: %s", m)
			}
			a.scribble()
			if !slices.EqualFunc(all[i+1:], again[i+1:], told.is) {
				t.Fatalf("P20.7: what is written over touches other lists: %s", m)
			}
		}
		if !slices.EqualFunc(lists(s, m), again, told.is) {
			t.Fatalf("P20.7: what was answered is kept: %s", m)
		}
		// m has lists of a store's answers, which are its own.
		tells(t, "P20.7: answered", opens(t, "answered", d, 300), m)
	}
}

// TestStoresApart: two stores, and two buckets of one archive, have nothing to do
// with one another.
func TestStoresApart(t *testing.T) {
	_, s := great(t, model{"a": of(9, v("j", 2), gone("j", 5), v("k", 7))})
	_, other := great(t, model{"z": of(1)})
	m, n := valuesOf(t, "one", s), valuesOf(t, "other", other)
	text, err := s.Export("a")
	wants(t, "Export", err, api.OK)
	for _, name := range []string{"b", "c"} {
		m = answers(t, "apart", s, m, call{kind: "Import", name: name, text: text})
		n = answers(t, "apart", other, n, call{kind: "Import", name: name, text: text})
	}
	m = answers(t, "apart", s, m, call{kind: "Put", name: "b", key: "k", data: "more"})
	m = answers(t, "apart", s, m, call{kind: "DeleteVersion", name: "c", key: "j", seq: 2})
	n = answers(t, "apart", other, n, call{kind: "Apply", name: "c", text: packed(of(20, v("a", 19)), 9)})
	n = answers(t, "apart", other, n, call{kind: "Drop", name: "b"})
	tells(t, "P20.7: one", s, m)
	tells(t, "P20.7: other", other, n)
}

// TestLooksAtOnce: what changes nothing, asked by many at once, is answered as if
// by one; with the race detector it also shows that nothing is written by it.
func TestLooksAtOnce(t *testing.T) {
	x := seed(54)
	_, s := laid(t, 600, 300, model{"a": x.from(1, 12, 40), "b": x.from(1, 5, 40), "c": of(1), "d": of(5, v("k", 1), v("k", 3))})
	m := valuesOf(t, "at once", s)
	want := lists(s, m)
	var all sync.WaitGroup
	for range 8 {
		all.Go(func() {
			if got := lists(s, m); !slices.EqualFunc(got, want, told.is) {
				t.Errorf("R4: asked by many at once the store of %s answers otherwise", m)
			}
		})
	}
	all.Wait()
	tells(t, "R4: asked by many at once", s, m)
}
