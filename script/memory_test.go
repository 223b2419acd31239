package script_test

import (
	"cmp"
	"math"
	"slices"
	"strings"
	"testing"
	"unsafe"

	"coffer/api"
	"coffer/script"
)

// room is a piece of memory, from one address on and below another.
type room struct{ from, to uintptr }

func roomOf[T any](l []T) room {
	var one T
	from := uintptr(unsafe.Pointer(unsafe.SliceData(l)))
	return room{from, from + uintptr(cap(l))*unsafe.Sizeof(one)}
}

func textRoom(s string) room {
	from := uintptr(unsafe.Pointer(unsafe.StringData(s)))
	return room{from, from + uintptr(len(s))}
}

// listRooms are where the lists of commands lie, spare room too.
func listRooms(l []command) []room {
	all := []room{roomOf(l)}
	for _, c := range l {
		all = append(all, roomOf(c.Step.Meta), roomOf(c.Step.Kept))
	}
	return all
}

// textRooms are where the texts of commands lie.
func textRooms(l []command) []room {
	var all []room
	for _, c := range l {
		all = append(all, textRoom(c.Bucket), textRoom(c.Step.Bucket), textRoom(c.Step.Key), textRoom(c.Step.Data))
		for _, p := range c.Step.Meta {
			all = append(all, textRoom(p.Name), textRoom(p.Value))
		}
	}
	return all
}

// share: have any two of these any memory in common?
func share(all []room) bool {
	all = slices.DeleteFunc(slices.Clone(all), func(r room) bool { return r.from == r.to })
	slices.SortFunc(all, func(a, b room) int { return cmp.Compare(a.from, b.from) })
	for i := 1; i < len(all); i++ {
		if all[i].from < all[i-1].to {
			return true
		}
	}
	return false
}

// meets: has any of these any memory in common with the other?
func meets(all []room, other room) bool {
	return slices.ContainsFunc(all, func(r room) bool { return r.from != r.to && r.from < other.to && other.from < r.to })
}

// fill writes the same over all of a list, spare room too.
func fill[T any](l []T, over T) {
	l = l[:cap(l)]
	for i := range l {
		l[i] = over
	}
}

// scratch is a text in memory that is written over later.
func scratch(text string) (string, []byte) {
	b := []byte(text)
	return unsafe.String(unsafe.SliceData(b), len(b)), b
}

// handed is commands whose lists have spare room, and whose texts and lists are
// written over later.
type handed struct {
	l     []command
	was   []command
	texts [][]byte
}

func (h *handed) text(s string) string {
	text, b := scratch(s)
	h.texts = append(h.texts, b)
	return text
}

func withSpare[T any](l []T, spare ...T) []T {
	n := len(l)
	return append(slices.Clone(l), spare...)[:n]
}

// copied is commands in memory of their own, spare room too.
func copied(l []command) []command {
	all := slices.Clone(l[:cap(l)])
	for i, c := range all {
		s := &all[i].Step
		all[i].Bucket, s.Bucket, s.Key, s.Data = strings.Clone(c.Bucket), strings.Clone(s.Bucket), strings.Clone(s.Key), strings.Clone(s.Data)
		s.Meta, s.Kept = slices.Clone(s.Meta[:cap(s.Meta)]), slices.Clone(s.Kept[:cap(s.Kept)])
		for j, p := range s.Meta {
			s.Meta[j] = api.Pair{Name: strings.Clone(p.Name), Value: strings.Clone(p.Value)}
		}
	}
	return all
}

func handIn(l []command) *handed {
	h := &handed{}
	for _, c := range l {
		s := &c.Step
		c.Bucket, s.Bucket, s.Key, s.Data = h.text(c.Bucket), h.text(s.Bucket), h.text(s.Key), h.text(s.Data)
		var meta []api.Pair
		for _, p := range s.Meta {
			meta = append(meta, api.Pair{Name: h.text(p.Name), Value: h.text(p.Value)})
		}
		s.Meta, s.Kept = withSpare(meta, pairs("spare", "pair", "spare", "")...), withSpare(s.Kept, 77, -77, 0)
		h.l = append(h.l, c)
	}
	h.l = withSpare(h.l, command{Kind: 77, Bucket: "spare"}, command{Kind: script.Up})
	h.was = copied(h.l)
	return h
}

// isChanged: is anything of it another than it was, spare room too?
func (h *handed) isChanged() bool { return !sameAll(copied(h.l), h.was) }

// overwrite writes over all that was handed in.
func (h *handed) overwrite() {
	for _, b := range h.texts {
		fill(b, '!')
	}
	for _, c := range h.l {
		fill(c.Step.Meta, api.Pair{Name: "over", Value: "over"})
		fill(c.Step.Kept, math.MaxInt)
	}
	fill(h.l, command{Kind: 99})
}

// TestPrintHandedIn: Print changes nothing that it is given, refused or not, and
// keeps nothing of it.
func TestPrintHandedIn(t *testing.T) {
	x := seed(51)
	for range 2000 {
		l := x.commands(6)
		switch x.below(6) {
		case 0:
			l = append(l, command{Kind: 6})
		case 1:
			c := everything(script.Step, 3)
			c.Step.Data = times(8192, "a")
			l = append(l, c)
		}
		want, wantErr := printOf(l)
		h := handIn(l)
		got, err := script.Print(h.l)
		if h.isChanged() {
			t.Fatalf("P22.1: Print(%s) has changed what it was given", short(l...))
		}
		h.overwrite()
		if got != want || err != wantErr {
			t.Fatalf("P22.1: written over behind it Print(%s) = %.300q, %d, want %.300q, %d", short(l...), got, err, want, wantErr)
		}
		if got, err := script.Print(l); got != want || err != wantErr {
			t.Fatalf("P22.1: Print(%s) again = %.300q, %d", short(l...), got, err)
		}
	}
}

// TestParseHandedIn: nothing that Parse answers lies in the text that it was
// given.
func TestParseHandedIn(t *testing.T) {
	x := seed(52)
	for range 2000 {
		text, want := x.script(8)
		given, b := scratch(text)
		got, err := script.Parse(given)
		if string(b) != text {
			t.Fatalf("P22.1: Parse(%.300q) has changed what it was given", text)
		}
		if meets(textRooms(got), textRoom(given)) {
			t.Fatalf("P22.1: what Parse(%.300q) answers lies in it", text)
		}
		fill(b, '!')
		if err != api.OK || !sameAll(got, want) {
			t.Fatalf("P22.1: written over behind it Parse(%.300q) = %s, %d, want %s", text, short(got...), err, short(want...))
		}
	}
	for _, s := range []string{"", "a", `"`, "\x00", times(5000, "a")} {
		given, b := scratch(s)
		got := script.Quote(given)
		if string(b) != s || meets([]room{textRoom(got)}, textRoom(given)) {
			t.Errorf("P22.1: Quote(%.20q) has changed what it was given, or answers a piece of it", s)
		}
		fill(b, '!')
		if got != quoteOf(s) {
			t.Errorf("P22.1: written over behind it Quote(%.20q) = %.40s", s, got)
		}
	}
}

// TestAnswerMemory: lists that are answered are new memory, each of its own;
// grown, or written over, they are nothing to each other.
func TestAnswerMemory(t *testing.T) {
	x := seed(53)
	many := times(20, "put \"a\" \"b\" \"c\" \"d\" \"e\" \"f\" \"g\"\ncrash 1 2 3 4\nput \"\" \"\" \"\" \"\" \"\"\ncrash 1 2\nup\n")
	for round := range 600 {
		text, want := x.script(12)
		if round < 3 {
			text = many
			want, _ = parseOf(text)
		}
		got, err := script.Parse(text)
		again, err2 := script.Parse(text)
		if err != api.OK || err2 != api.OK || !sameAll(got, want) || !sameAll(again, want) {
			t.Fatalf("P22.1: Parse(%.300q): %d, %d", text, err, err2)
		}
		if share(append(listRooms(got), listRooms(again)...)) {
			t.Fatalf("P22.1: lists that Parse(%.300q) answers share memory", text)
		}
		for i := range got {
			_ = append(got[i].Step.Meta, pairs("more", "more")...)
			_ = append(got[i].Step.Kept, -99)
		}
		_ = append(got, command{Kind: 99})
		if !sameAll(got, want) {
			t.Fatalf("P22.1: what grows touches other lists: Parse(%.300q) = %s", text, short(got...))
		}
		for i := range got {
			fill(got[i].Step.Meta, api.Pair{Name: "over", Value: "over"})
			fill(got[i].Step.Kept, -99)
			if !sameAll(got[i+1:], want[i+1:]) {
				t.Fatalf("P22.1: what is written over touches other lists: Parse(%.300q) = %s", text, short(got[i+1:]...))
			}
		}
		fill(got, command{Kind: 99})
		if !sameAll(again, want) {
			t.Fatalf("P22.1: what is written over is another answer's: Parse(%.300q) = %s", text, short(again...))
		}
		if got, err := script.Parse(text); err != api.OK || !sameAll(got, want) {
			t.Fatalf("P22.1: what was answered is kept: Parse(%.300q) = %s, %d", text, short(got...), err)
		}
	}
}
