package world_test

import (
	"fmt"
	"math"
	"slices"
	"testing"

	"coffer/api"
	"coffer/archive"
	"coffer/world"
)

// onTheShelf are both kinds of steps that take an archive of the shelf.
var onTheShelf = []int{world.ImportShelf, world.ApplyShelf}

// TestEmptyShelf: of a shelf of nothing every number is ErrArg, ahead of all that
// is wrong besides; where the world is down ErrOff is.
func TestEmptyShelf(t *testing.T) {
	w, m := begunWith(t, 200, 100, map[string]api.Bucket{"a": of(9, v("k", 7))})
	numbers := []int{math.MinInt, math.MinInt32, -2, -1, 0, 1, 2, math.MaxInt32, math.MaxInt}
	tries := func(want api.Errno) {
		t.Helper()
		for _, n := range numbers {
			for _, kind := range onTheShelf {
				for _, name := range []string{"a", "new", "A", ""} {
					alone(t, "P21.1: nothing on the shelf", w, world.Step{Kind: kind, Bucket: name, N: n, Data: packed(of(1), 0)}, want)
				}
			}
		}
	}
	tries(api.ErrArg)
	holds(t, "R2: nothing on the shelf", w, m)
	falls(t, w)
	tries(api.ErrOff)
	isDown(t, "R2: nothing on the shelf", w, nil)
	alone(t, "nothing on the shelf", w, world.Step{Kind: world.Crash}, api.OK)
	tries(api.ErrArg)
	holds(t, "R2: nothing on the shelf", w, m)
}

// falls has the power go in a step that is lost.
func falls(t *testing.T, w *world.World) {
	t.Helper()
	alone(t, "falls", w, world.Step{Kind: world.Fall, N: 1}, api.OK)
	alone(t, "falls", w, world.Step{Kind: world.Make, Bucket: "lost"}, api.ErrOff)
}

// TestShelfNumbers: numbers below 0, at the shelf's last and one above it; which
// error is told where several would be.
func TestShelfNumbers(t *testing.T) {
	w, m := someWorld(t)
	last := len(m.shelf) - 1
	for _, one := range []struct {
		kind int
		name string
		n    int
		want api.Errno
	}{
		{world.ImportShelf, "A", -1, 1}, {world.ApplyShelf, "A", -1, 1},
		{world.ImportShelf, "a", -1, 1}, {world.ApplyShelf, "none", -1, 1},
		{world.ImportShelf, "new", math.MinInt, 1}, {world.ApplyShelf, "a", math.MinInt, 1},
		{world.ImportShelf, "", last + 1, 1}, {world.ApplyShelf, "", last + 1, 1},
		{world.ImportShelf, "new", last + 1, 1}, {world.ApplyShelf, "a", last + 1, 1},
		{world.ImportShelf, "new", math.MaxInt, 1}, {world.ApplyShelf, "a", math.MaxInt, 1},
		{world.ImportShelf, "A", 1, 60}, {world.ApplyShelf, "A", 0, 60},
		{world.ImportShelf, "A", last, 60}, {world.ApplyShelf, "A", last, 60},
		{world.ImportShelf, "a", 1, 90}, {world.ImportShelf, "new", 2, 90},
		{world.ApplyShelf, "none", 0, 90}, {world.ApplyShelf, "a", last, 90},
		{world.ImportShelf, "a", 0, 71}, {world.ImportShelf, "b", last, 71},
		{world.ApplyShelf, "none", 1, 70}, {world.ApplyShelf, "a", 1, 91}, {world.ApplyShelf, "b", 3, 91},
		{world.ImportShelf, "new", last, 0}, {world.ImportShelf, "newer", 0, 0},
		{world.ApplyShelf, "a", 2, 0}, {world.ApplyShelf, "empty", 3, 0},
	} {
		s := world.Step{Kind: one.kind, Bucket: one.name, N: one.n}
		want, behind := m.by(s)
		wants(t, "the model: "+said(s), want.Err, one.want)
		alone(t, "P21.1", w, s, one.want)
		m = behind
		holds(t, "P21.1: behind "+said(s), w, m)
	}
	falls(t, w)
	for n := -2; n <= last+2; n++ {
		for _, kind := range onTheShelf {
			alone(t, "P21.1: down", w, world.Step{Kind: kind, Bucket: "A", N: n}, api.ErrOff)
			alone(t, "P21.1: down", w, world.Step{Kind: kind, Bucket: "a", N: n}, api.ErrOff)
		}
	}
	alone(t, "P21.3", w, world.Step{Kind: world.Crash}, api.OK)
	tells(t, "P21.3: the shelf stays", w, m)
}

// TestRefusedExports: what is refused puts nothing onto the shelf, up and down.
func TestRefusedExports(t *testing.T) {
	w, m := someWorld(t)
	refused := []struct {
		s    world.Step
		want api.Errno
	}{
		{world.Step{Kind: world.Export, Bucket: ""}, 60},
		{world.Step{Kind: world.Export, Bucket: "A"}, 60},
		{world.Step{Kind: world.Export, Bucket: "none"}, 70},
		{world.Step{Kind: world.Since, Bucket: "A", Seq: 0}, 60},
		{world.Step{Kind: world.Since, Bucket: "none", Seq: 0}, 70},
		{world.Step{Kind: world.Since, Bucket: "a", Seq: 0}, 1},
		{world.Step{Kind: world.Since, Bucket: "a", Seq: 10}, 1},
		{world.Step{Kind: world.Since, Bucket: "a", Seq: least}, 1},
		{world.Step{Kind: world.Since, Bucket: "a", Seq: greatest}, 1},
		{world.Step{Kind: world.Since, Bucket: "empty", Seq: 2}, 1},
	}
	for _, one := range refused {
		alone(t, "P21.1: up", w, one.s, one.want)
		holds(t, "R2: nothing goes onto the shelf", w, m)
	}
	alone(t, "the next number", w, world.Step{Kind: world.ImportShelf, Bucket: "new", N: len(m.shelf)}, api.ErrArg)
	m = answers(t, "the next number", w, m, world.Step{Kind: world.Export, Bucket: "b"})
	m = answers(t, "the next number", w, m, world.Step{Kind: world.ImportShelf, Bucket: "new", N: len(m.shelf) - 1})
	falls(t, w)
	for _, one := range append(refused, refused[0]) {
		alone(t, "P21.1: down", w, one.s, api.ErrOff)
	}
	for _, s := range []world.Step{{Kind: world.Export, Bucket: "a"}, {Kind: world.Since, Bucket: "a", Seq: 1}} {
		alone(t, "P21.1: down", w, s, api.ErrOff)
	}
	isDown(t, "R2: nothing goes onto the shelf", w, m.shelf)
	alone(t, "P21.3", w, world.Step{Kind: world.Crash}, api.OK)
	holds(t, "P21.3", w, m)
}

// TestShelfOrder: archives go onto the shelf in the order in which they were
// told, twice the same one too, and stay there as they were told, whatever
// becomes of their bucket, and behind crashes.
func TestShelfOrder(t *testing.T) {
	w, m := begunWith(t, 400, 200, map[string]api.Bucket{"a": of(1), "b": of(9, v("k", 7))})
	for i := range 60 {
		name := one(seed(i), "a", "b")
		m = answers(t, "order", w, m, world.Step{Kind: world.Put, Bucket: name, Key: "k", Data: fmt.Sprint(i)})
		m = answers(t, "order", w, m, world.Step{Kind: world.Export, Bucket: name})
		m = answers(t, "order", w, m, world.Step{Kind: world.Since, Bucket: name, Seq: m.values[name].Next - 1})
		m = answers(t, "order", w, m, world.Step{Kind: world.Export, Bucket: name})
		switch i % 20 {
		case 9:
			alone(t, "order", w, world.Step{Kind: world.Crash}, api.OK)
		case 14:
			falls(t, w)
			isDown(t, "P21.1: the shelf stays", w, m.shelf)
			alone(t, "order", w, world.Step{Kind: world.Crash, Kept: []int{0}}, api.OK)
		case 19:
			m = answers(t, "order", w, m, world.Step{Kind: world.Drop, Bucket: name})
			m = answers(t, "order", w, m, world.Step{Kind: world.ImportShelf, Bucket: name, N: 0})
		}
		holds(t, "P21.1: the shelf", w, m)
	}
	if len(m.shelf) != 180 {
		t.Fatalf("%d on the shelf", len(m.shelf))
	}
	for n := range m.shelf {
		m = m.without("c")
		w.Do(world.Step{Kind: world.Drop, Bucket: "c"})
		m = answers(t, "order", w, m, world.Step{Kind: world.ImportShelf, Bucket: "c", N: n})
	}
	holds(t, "P21.1: the shelf", w, m)
}

// values are right values of all kinds.
func values() []api.Bucket {
	return []api.Bucket{
		of(1), of(9), of(maxNext), of(2, gone("k", 1)), of(2, v("k", 1)), of(maxNext, v("k", maxNext-1)),
		of(9, gone("a", 3), gone("a", 8), gone("ab", 1), gone("b", 5)),
		of(9, api.Version{Key: "k", Seq: 3}),
		of(9, v("\x00", 6), v("a", 5), v("a\x00", 4), gone("a\x00a", 3), v("ab", 2), v("b", 1)),
		of(9, api.Version{Key: times(32, "\xff"), Seq: 2, Data: times(1024, "\x00"), Meta: pairs("-", times(64, "v"), "0", "", "a", "=", "ab", "\n", "b", "", "c", "", "d", "", "sixteen-letters-", times(64, "\x00"))}),
		filled(256, 20000, 5, 1), filled(64, 65536, 32, 1), filled(256, 65536, 32, 1),
	}
}

// TestThereAndBack: an export is the one text of the value; imported, by its
// bytes or from the shelf, under the same name or another one, it gives that
// value, which exports alike; the others are as they were.
func TestThereAndBack(t *testing.T) {
	for _, b := range values() {
		w, m := great(t, map[string]api.Bucket{"there": b, "other": of(2, v("k", 1))})
		text := packed(b, 0)
		if got := w.Do(world.Step{Kind: world.Export, Bucket: "there"}); !toldSame(got, world.Told{Bytes: text}) {
			t.Fatalf("T3: the export is %s, want %.400q", toldAs(got), text)
		}
		if back, err := archive.Decode(w.Shelf()[0]); err != api.OK || !sameValue(back, b) {
			t.Fatalf("T3: the shelf has %.400q", w.Shelf()[0])
		}
		m = m.and(text)
		m = answers(t, "T3", w, m, world.Step{Kind: world.Import, Bucket: "bytes", Data: text})
		m = answers(t, "T3", w, m, world.Step{Kind: world.ImportShelf, Bucket: "shelf", N: 0})
		m = answers(t, "T3", w, m, world.Step{Kind: world.Drop, Bucket: "there"})
		m = answers(t, "T3", w, m, world.Step{Kind: world.ImportShelf, Bucket: "there", N: 0})
		holds(t, "T3", w, m)
		for _, name := range []string{"bytes", "shelf", "there"} {
			if got := w.Do(world.Step{Kind: world.Export, Bucket: name}); !toldSame(got, world.Told{Bytes: text}) {
				t.Fatalf("T3: %s exports as %s, want %.400q", name, toldAs(got), text)
			}
			m = m.and(text)
		}
		alone(t, "T3", w, world.Step{Kind: world.Crash}, api.OK)
		tells(t, "T3: behind a crash", w, m)
	}
}

// TestAnyBytes: a text that is no archive, imported under a right name that isn't
// there, is ErrMalformed; one that is exports as just itself.
func TestAnyBytes(t *testing.T) {
	x := seed(11)
	w, m := great(t, map[string]api.Bucket{"a": of(9, v("k", 7))})
	texts := []string{"", "x", "\n", times(1<<20, "\x00"), times(1<<20+1, "13 kind=full\n")}
	for _, b := range values()[:10] {
		text := packed(b, 0)
		texts = append(texts, text, text[1:], text[:len(text)-1], text+"\n", text+text, since(b, 1), since(b, b.Next))
		for range 40 {
			at := x.below(len(text))
			texts = append(texts, turned(text, at, byte(x.number())), turned(text, at, "0123456789"[x.below(10)]), text[:at]+text[at+1:], text[:at]+x.text(1)+text[at:])
		}
	}
	taken, refused := 0, 0
	for _, text := range texts {
		got := w.Do(world.Step{Kind: world.Import, Bucket: "new", Data: text})
		if b, err := archive.Decode(text); err != api.OK {
			refused++
			if !isAlone(got, api.ErrMalformed) {
				t.Fatalf("T4: %.400q: %s", text, toldAs(got))
			}
			holds(t, "T4: refused", w, m)
			alone(t, "T4", w, world.Step{Kind: world.Export, Bucket: "new"}, api.ErrBucket)
			continue
		} else if !isAlone(got, api.OK) {
			t.Fatalf("T4: %.400q is %+v: %s", text, b, toldAs(got))
		}
		taken++
		if got := w.Do(world.Step{Kind: world.Export, Bucket: "new"}); !toldSame(got, world.Told{Bytes: text}) {
			t.Fatalf("T4: %.400q exports as %s", text, toldAs(got))
		}
		m = m.and(text)
		alone(t, "T4", w, world.Step{Kind: world.Drop, Bucket: "new"}, api.OK)
	}
	if taken <= 10 || refused < 900 {
		t.Errorf("%d are taken, %d refused", taken, refused)
	}
	holds(t, "T4", w, m)
}

// grown does steps to bucket a that put versions from its Next on, and remove
// some of those alone.
func grown(t *testing.T, x *texter, w *world.World, m model) model {
	t.Helper()
	from := m.values["a"].Next
	for range 1 + x.below(9) {
		kind := one(x, world.Put, world.Put, world.Put, world.Delete)
		m = answers(t, "grown", w, m, world.Step{Kind: kind, Bucket: "a", Key: one(x, keys...), Data: x.text(x.below(90)), Meta: x.meta()})
		for _, v := range m.values["a"].Versions {
			if v.Seq >= from && x.below(9) == 0 {
				m = answers(t, "grown", w, m, world.Step{Kind: world.Remove, Bucket: "a", Key: v.Key, Seq: v.Seq})
			}
		}
	}
	return m
}

// TestDeltas: what a bucket has from a number on, laid on what it was when that
// number was next, makes it: by its bytes and from the shelf, in one step and in
// two, also where the power went between.
func TestDeltas(t *testing.T) {
	x := seed(12)
	for range 30 {
		w, m := begunWith(t, 1200, 600, map[string]api.Bucket{"a": x.from(1, 9, 90), "other": of(2, v("k", 1))})
		first := m.values["a"].Next
		m = answers(t, "T5", w, m, world.Step{Kind: world.Export, Bucket: "a"})
		for _, name := range []string{"once", "twice", "bytes"} {
			m = answers(t, "T5", w, m, world.Step{Kind: world.ImportShelf, Bucket: name, N: 0})
		}
		m = grown(t, x, w, m)
		second := m.values["a"].Next
		m = answers(t, "T5", w, m, world.Step{Kind: world.Since, Bucket: "a", Seq: first})
		m = answers(t, "T5", w, m, world.Step{Kind: world.ApplyShelf, Bucket: "twice", N: 1})
		if x.below(2) == 0 {
			falls(t, w)
			alone(t, "T5", w, world.Step{Kind: world.Crash, Kept: []int{0, 1}}, api.OK)
		}
		m = grown(t, x, w, m)
		m = answers(t, "T5", w, m, world.Step{Kind: world.Since, Bucket: "a", Seq: second})
		m = answers(t, "T5", w, m, world.Step{Kind: world.Since, Bucket: "a", Seq: first})
		m = answers(t, "T5", w, m, world.Step{Kind: world.ApplyShelf, Bucket: "twice", N: 2})
		m = answers(t, "T5", w, m, world.Step{Kind: world.ApplyShelf, Bucket: "once", N: 3})
		m = answers(t, "T5", w, m, world.Step{Kind: world.Apply, Bucket: "bytes", Data: m.shelf[3]})
		for _, name := range []string{"once", "twice", "bytes"} {
			if !sameValue(m.values[name], m.values["a"]) {
				t.Fatalf("T5: %s: %s", name, m)
			}
		}
		holds(t, "T5", w, m)
		for n := 1; n <= 3; n++ {
			alone(t, "T5: a second time", w, world.Step{Kind: world.ApplyShelf, Bucket: "once", N: n}, api.ErrMarker)
		}
		tells(t, "T5", w, m)
	}
}

// TestShelfLooks: the shelf that is seen is a list of its own each time.
func TestShelfLooks(t *testing.T) {
	w, m := someWorld(t)
	first, second := w.Shelf(), w.Shelf()
	fill(first, "over")
	_ = append(first, "more")
	if !slices.Equal(second, m.shelf) {
		t.Fatalf("P21.5: two looks at the shelf share memory")
	}
	holds(t, "P21.5", w, m)
	m = answers(t, "P21.5", w, m, world.Step{Kind: world.Export, Bucket: "b"})
	if !slices.Equal(second, m.shelf[:len(m.shelf)-1]) {
		t.Fatalf("P21.5: what was seen of the shelf has changed")
	}
	_ = append(second, "more")
	grow := append(w.Shelf()[:1], "more")
	fill(grow, "over")
	holds(t, "P21.5", w, m)
	m = answers(t, "P21.5", w, m, world.Step{Kind: world.ImportShelf, Bucket: "new", N: 0})
	holds(t, "P21.5", w, m)
}
