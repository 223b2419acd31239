package run_test

import (
	"math"
	"reflect"
	"slices"
	"strings"
	"testing"
	"unsafe"

	"coffer/api"
	"coffer/run"
	"coffer/script"
	"coffer/world"
)

// scratch is a text in memory that is written over later.
func scratch(text string) (string, []byte) {
	b := []byte(text)
	return unsafe.String(unsafe.SliceData(b), len(b)), b
}

// fill writes the same over all of a list, spare room too.
func fill[T any](l []T, over T) {
	l = l[:cap(l)]
	for i := range l {
		l[i] = over
	}
}

func withSpare[T any](l []T, spare ...T) []T {
	return append(slices.Clone(l), spare...)[:len(l)]
}

// handed is steps whose lists have spare room, and whose texts and lists are
// written over later.
type handed struct {
	l, was []world.Step
	texts  [][]byte
}

func (h *handed) text(s string) string {
	text, b := scratch(s)
	h.texts = append(h.texts, b)
	return text
}

// copied is steps in memory of their own, spare room too.
func copied(l []world.Step) []world.Step {
	all := slices.Clone(l[:cap(l)])
	for i := range all {
		s := &all[i]
		s.Bucket, s.Key, s.Data = strings.Clone(s.Bucket), strings.Clone(s.Key), strings.Clone(s.Data)
		s.Meta, s.Kept = slices.Clone(s.Meta[:cap(s.Meta)]), slices.Clone(s.Kept[:cap(s.Kept)])
		for j, p := range s.Meta {
			s.Meta[j] = api.Pair{Name: strings.Clone(p.Name), Value: strings.Clone(p.Value)}
		}
	}
	return all
}

func handIn(l []world.Step) *handed {
	h := &handed{}
	for _, s := range l {
		s.Bucket, s.Key, s.Data = h.text(s.Bucket), h.text(s.Key), h.text(s.Data)
		var meta []api.Pair
		for _, p := range s.Meta {
			meta = append(meta, api.Pair{Name: h.text(p.Name), Value: h.text(p.Value)})
		}
		s.Meta, s.Kept = withSpare(meta, pairs("spare", "pair", "spare", "")...), withSpare(s.Kept, 77, -77, 0)
		h.l = append(h.l, s)
	}
	h.l = withSpare(h.l, world.Step{Kind: 77, Bucket: "spare"}, world.Step{Kind: world.Names})
	h.was = copied(h.l)
	return h
}

// isChanged: is anything of it another than it was, spare room too?
func (h *handed) isChanged() bool { return !reflect.DeepEqual(copied(h.l), h.was) }

// overwrite writes over all that was handed in.
func (h *handed) overwrite() {
	for _, b := range h.texts {
		fill(b, '!')
	}
	for _, s := range h.l {
		fill(s.Meta, api.Pair{Name: "over", Value: "over"})
		fill(s.Kept, math.MaxInt)
	}
	fill(h.l, world.Step{Kind: 99})
}

// TestTellHandedIn: Tell changes nothing that it is given, refused or not, and
// what it tells has none of it.
func TestTellHandedIn(t *testing.T) {
	x := seed(31)
	for range 200 {
		var l []world.Step
		for _, c := range x.commands(300, 150, 20, x.below(2) == 0) {
			if c.Kind == script.Step {
				l = append(l, c.Step)
			}
		}
		switch x.below(8) {
		case 0:
			l = append(l, world.Step{Kind: 19, Meta: pairs("a", "b"), Kept: []int{1}})
		case 1:
			l = append(l, world.Step{Kind: world.Import, Data: times(9000, "x"), Meta: pairs("a", "b"), Kept: []int{1}})
		}
		want, wantErr := run.Tell(300, 150, l)
		want = strings.Clone(want)
		h := handIn(l)
		got, err := run.Tell(300, 150, h.l)
		if h.isChanged() {
			t.Fatalf("P23.1: Tell of %d steps has changed what it was given", len(l))
		}
		h.overwrite()
		if got != want || err != wantErr {
			t.Fatalf("P23.1: written over behind Tell what was told is %.300q, %d, want %.300q, %d", got, err, want, wantErr)
		}
		if again, err := run.Tell(300, 150, l); again != want || err != wantErr {
			t.Fatalf("P23.1: Tell again: %.300q, %d, want %.300q, %d", again, err, want, wantErr)
		}
	}
}

// TestPlayHandedIn: what Play tells has nothing of the text that it was given, and
// is memory of its own.
func TestPlayHandedIn(t *testing.T) {
	x := seed(32)
	for range 200 {
		text := x.loose(printed(t, x.commands(300, 150, 30, x.below(2) == 0)))
		tale, _ := playOf(text)
		want := strings.Join(tale, "")
		in, b := scratch(text)
		got, err := run.Play(in)
		if string(b) != text {
			t.Fatalf("P23.1: Play has changed %.300q", text)
		}
		fill(b, '!')
		if got != want || err != api.OK {
			t.Fatalf("P23.1: written over behind Play what was told is %.300q, %d, want %.300q", got, err, want)
		}
		again, _ := run.Play(text)
		if unsafe.StringData(again) == unsafe.StringData(got) {
			t.Fatalf("R3: two calls tell the same memory")
		}
	}
}
