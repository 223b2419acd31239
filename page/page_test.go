package page_test

import (
	"encoding/hex"
	"fmt"
	"maps"
	"math"
	"slices"
	"strings"
	"sync"
	"testing"
	"unsafe"

	"coffer/api"
	"coffer/page"
)

// texter tells numbers and texts that look like chance and are the same each time.
type texter struct{ x uint64 }

func (t *texter) number() uint64 {
	t.x += 0x9e3779b97f4a7c15
	z := t.x
	z = (z ^ z>>30) * 0xbf58476d1ce4e5b9
	z = (z ^ z>>27) * 0x94d049bb133111eb
	return z ^ z>>31
}

func (t *texter) below(n int) int { return int(t.number() % uint64(n)) }

// text has n bytes of all kinds; zeros, which a block ends with, come often.
func (t *texter) text(n int) string {
	b := make([]byte, n)
	for i := range b {
		if t.below(3) > 0 {
			b[i] = byte(t.number())
		}
	}
	return string(b)
}

// sorted is a sorted list of so many entries at most, whose keys and values
// have at most so many bytes.
func (t *texter) sorted(entries, key, value int) []api.Entry {
	var l []api.Entry
	for range t.below(entries + 1) {
		l = append(l, api.Entry{Key: t.text(t.below(key + 1)), Value: t.text(t.below(value + 1))})
	}
	return inOrder(l)
}

// fitting is one that a page has room for, nearly full as often as not.
func (t *texter) fitting() []api.Entry {
	l := t.sorted(1+t.below(60), 1+t.below(100), t.below(151))
	for sizeOf(l) > 507 {
		i := t.below(len(l))
		l = slices.Delete(l, i, i+1)
	}
	return l
}

// inOrder is a list of these entries, the first of each key.
func inOrder(l []api.Entry) []api.Entry {
	byKey := map[string]api.Entry{}
	for _, e := range slices.Backward(l) {
		byKey[e.Key] = e
	}
	l = nil
	for _, key := range slices.Sorted(maps.Keys(byKey)) {
		l = append(l, byKey[key])
	}
	return l
}

// entries are made of keys and values in turn.
func entries(s ...string) []api.Entry {
	var l []api.Entry
	for i := 0; i < len(s); i += 2 {
		l = append(l, api.Entry{Key: s[i], Value: s[i+1]})
	}
	return l
}

// sized are sorted entries of these sizes, of which none is below 4.
func sized(sizes ...int) []api.Entry {
	var l []api.Entry
	for i, n := range sizes {
		key := string([]byte{byte(i >> 8), byte(i)})
		if long := n - 4 - 150; long > 0 {
			key += strings.Repeat("k", long)
		}
		l = append(l, api.Entry{Key: key, Value: strings.Repeat("v", n-2-len(key))})
	}
	return l
}

// bytesOf is a text by its bytes in base sixteen, blanks left out.
func bytesOf(s string) string {
	b, err := hex.DecodeString(strings.ReplaceAll(s, " ", ""))
	if err != nil {
		panic(err)
	}
	return string(b)
}

// filled is a text with zeros up to the end of a block.
func filled(s string) string { return s + strings.Repeat("\x00", 512-len(s)) }

// times is a text of n times a letter.
func times(n int, letter string) string { return strings.Repeat(letter, n) }

func sizeOf(l []api.Entry) int {
	n := 2 * len(l)
	for _, e := range l {
		n += len(e.Key + e.Value)
	}
	return n
}

// errorOf is the chapter's error of a page, reason by reason.
func errorOf(p page.Page) api.Errno {
	if p.Kind < 0 || 255 < p.Kind || p.Link < 0 || 65535 < p.Link {
		return 1
	}
	for _, e := range p.L {
		if len(e.Key) > 100 || len(e.Value) > 150 {
			return 3
		}
	}
	if sizeOf(p.L) > 507 {
		return 3
	}
	if !slices.Equal(p.L, inOrder(p.L)) {
		return 4
	}
	return 0
}

// blockOf is the chapter's block of a page, laid in place.
func blockOf(p page.Page) string {
	b := make([]byte, 512)
	b[0] = byte(p.Kind)
	b[1], b[2] = byte(p.Link/256), byte(p.Link%256)
	b[3], b[4] = byte(len(p.L)/256), byte(len(p.L)%256)
	at := 5
	for _, e := range p.L {
		b[at], b[at+1] = byte(len(e.Key)), byte(len(e.Value))
		copy(b[at+2:], e.Key+e.Value)
		at += 2 + len(e.Key) + len(e.Value)
	}
	return string(b)
}

// pageOf is the page whose block a text is, by the chapter's words one by one.
func pageOf(b string) (page.Page, bool) {
	if len(b) != 512 {
		return page.Page{}, false
	}
	p := page.Page{Kind: int(b[0]), Link: int(b[1])*256 + int(b[2])}
	at := 5
	for n := int(b[3])*256 + int(b[4]); n > 0; n-- {
		if at+2 > 512 {
			return page.Page{}, false
		}
		key, value := int(b[at]), int(b[at+1])
		end := at + 2 + key + value
		if key > 100 || value > 150 || end > 512 {
			return page.Page{}, false
		}
		e := api.Entry{Key: b[at+2 : at+2+key], Value: b[at+2+key : end]}
		if len(p.L) > 0 && e.Key <= p.L[len(p.L)-1].Key {
			return page.Page{}, false
		}
		p.L = append(p.L, e)
		at = end
	}
	return p, strings.Trim(b[at:], "\x00") == ""
}

// cutOf is how many entries Split's first part has: all cuts, each reckoned anew.
func cutOf(l []api.Entry) int {
	if len(l) < 2 {
		return len(l)
	}
	best := 1
	greater := func(n int) int { return max(sizeOf(l[:n]), sizeOf(l[n:])) }
	for n := 2; n < len(l); n++ {
		if greater(n) < greater(best) {
			best = n
		}
	}
	return best
}

func same(a, b page.Page) bool {
	return a.Kind == b.Kind && a.Link == b.Link && slices.Equal(a.L, b.L)
}

// short is a page as an error tells it.
func short(p page.Page) string {
	return fmt.Sprintf("Kind %d Link %d, %d entries of %d bytes %.300q", p.Kind, p.Link, len(p.L), sizeOf(p.L), p.L)
}

func wantRefused(t *testing.T, what string, p page.Page, want api.Errno) {
	t.Helper()
	if b, err := page.Write(p); b != "" || err != want {
		t.Errorf("P10.1: %s: Write(%s) = %d bytes, %d, want %d", what, short(p), len(b), err, want)
	}
}

// wantPage: does Write tell this block, and Read this page?
func wantPage(t *testing.T, what string, p page.Page, want string) {
	t.Helper()
	if b, err := page.Write(p); b != want || err != api.OK {
		t.Errorf("P10.1: %s: Write(%s) = %.200x (%d bytes), %d, want %.200x", what, short(p), b, len(b), err, want)
	}
	if got, err := page.Read(want); !same(got, p) || err != api.OK {
		t.Errorf("P10.2: %s: Read(%.200x) = %s, %d, want %s", what, want, short(got), err, short(p))
	}
}

func wantNone(t *testing.T, what, b string) {
	t.Helper()
	if p, err := page.Read(b); p.Kind != 0 || p.Link != 0 || len(p.L) != 0 || err != api.ErrForm {
		t.Errorf("P10.1: %s: Read(%.200x (%d bytes)) = %s, %d, want ErrForm", what, b, len(b), short(p), err)
	}
}

// wantWrite: is Write as the chapter says, of any page?
func wantWrite(t *testing.T, what string, p page.Page) {
	t.Helper()
	if err := errorOf(p); err != api.OK {
		wantRefused(t, what, p, err)
		return
	}
	wantPage(t, what, p, blockOf(p))
}

// wantRead: is Read as the chapter says, of any text?
func wantRead(t *testing.T, what, b string) {
	t.Helper()
	p, ok := pageOf(b)
	if !ok {
		wantNone(t, what, b)
		return
	}
	wantPage(t, what, p, b)
}

func wantFind(t *testing.T, l []api.Entry, key string) {
	t.Helper()
	below, there := 0, false
	for _, e := range l {
		if e.Key < key {
			below++
		}
		there = there || e.Key == key
	}
	if n, ok := page.Find(l, key); n != below || ok != there {
		t.Errorf("P10.1: Find(%.200q, %.40q) = %d, %v, want %d, %v", l, key, n, ok, below, there)
	}
}

// wantPut: is the entry in its place, and all else as it was?
func wantPut(t *testing.T, l []api.Entry, key, value string) {
	t.Helper()
	want := inOrder(append([]api.Entry{{Key: key, Value: value}}, l...))
	got := page.Put(l, key, value)
	if !slices.Equal(got, want) {
		t.Errorf("P10.3: Put(%.200q, %.40q, %.40q) = %.200q, want %.200q", l, key, value, got, want)
	}
	if n, ok := page.Find(got, key); !ok || got[n] != (api.Entry{Key: key, Value: value}) {
		t.Errorf("P10.3: Find of %.40q, which was put: %d, %v", key, n, ok)
	}
}

func wantDelete(t *testing.T, l []api.Entry, key string) {
	t.Helper()
	there := func(e api.Entry) bool { return e.Key == key }
	want := slices.DeleteFunc(slices.Clone(l), there)
	got, ok := page.Delete(l, key)
	if !slices.Equal(got, want) || ok != slices.ContainsFunc(l, there) {
		t.Errorf("P10.3: Delete(%.200q, %.40q) = %.200q, %v, want %.200q", l, key, got, ok, want)
	}
	if n, ok := page.Find(got, key); ok {
		t.Errorf("P10.3: Find of %.40q, which was deleted: %d", key, n)
	}
}

// wantSplit: are the parts as the chapter says, and where they must, do they fit?
func wantSplit(t *testing.T, what string, l []api.Entry) {
	t.Helper()
	a, b := page.Split(l)
	if len(a) != cutOf(l) || !slices.Equal(slices.Concat(a, b), l) {
		t.Errorf("P10.1: %s: Split of %d entries %.200q: %d and %d, want %d first", what, len(l), l, len(a), len(b), cutOf(l))
	}
	long := func(e api.Entry) bool { return len(e.Key) > 100 || len(e.Value) > 150 }
	if sizeOf(l) > 507+252 || slices.ContainsFunc(l, long) {
		return
	}
	if sizeOf(a) > 507 || sizeOf(b) > 507 {
		t.Errorf("P10.4: %s: parts of %d and %d bytes", what, sizeOf(a), sizeOf(b))
	}
}

func TestExamples(t *testing.T) {
	if page.Room != 507 {
		t.Errorf("P10.1: Room is %d", page.Room)
	}
	wantPage(t, "example 1", page.Page{Kind: 1, Link: 258, L: entries("a", "xy")}, filled(bytesOf("01 01 02 00 01 01 02 61 78 79")))
	wantPage(t, "example 1", page.Page{}, filled(""))
	wantPage(t, "example 1", page.Page{L: []api.Entry{}}, filled(""))

	wantRefused(t, "example 2", page.Page{Kind: 256}, api.ErrArg)
	wantRefused(t, "example 2", page.Page{Link: -1}, api.ErrArg)
	wantRefused(t, "example 2", page.Page{L: entries(times(101, "k"), "")}, api.ErrLong)
	wantRefused(t, "example 2", page.Page{L: entries("k", times(151, "v"))}, api.ErrLong)
	wantRefused(t, "example 2", page.Page{L: sized(200, 200, 200)}, api.ErrLong)
	wantRefused(t, "example 2", page.Page{L: entries("b", "1", "a", "2")}, api.ErrForm)
	wantRefused(t, "example 2", page.Page{L: entries("a", "1", "a", "2")}, api.ErrForm)
	wantNone(t, "example 2", filled("")[:511])
	wantNone(t, "example 2", filled(bytesOf("01 01 02 00 01 01 02 61 78 79 01")))
	wantNone(t, "example 2", filled(bytesOf("00 00 00 00 02 01 00 62 01 00 61")))

	l := entries("a", "1", "c", "2")
	for _, key := range []string{"", "a", "b", "c", "d"} {
		wantFind(t, l, key)
	}
	if n, ok := page.Find(l, "b"); n != 1 || ok {
		t.Errorf("P10.1: example 3: Find of b: %d, %v", n, ok)
	}
	if n, ok := page.Find(l, "c"); n != 1 || !ok {
		t.Errorf("P10.1: example 3: Find of c: %d, %v", n, ok)
	}
	if n, ok := page.Find(l, "d"); n != 2 || ok {
		t.Errorf("P10.1: example 3: Find of d: %d, %v", n, ok)
	}
	if got := page.Put(l, "b", "3"); !slices.Equal(got, entries("a", "1", "b", "3", "c", "2")) {
		t.Errorf("P10.3: example 3: Put of b: %v", got)
	}
	if got := page.Put(l, "c", "9"); !slices.Equal(got, entries("a", "1", "c", "9")) {
		t.Errorf("P10.3: example 3: Put of c: %v", got)
	}
	if got, ok := page.Delete(l, "a"); !slices.Equal(got, entries("c", "2")) || !ok {
		t.Errorf("P10.3: example 3: Delete of a: %v, %v", got, ok)
	}
	if got, ok := page.Delete(l, "b"); !slices.Equal(got, l) || ok {
		t.Errorf("P10.3: example 3: Delete of b: %v, %v", got, ok)
	}
	if n := page.Size(l); n != 8 {
		t.Errorf("P10.1: example 3: Size: %d", n)
	}
}

// TestSplitByHand: the chapter's fourth example, and more of its kind.
func TestSplitByHand(t *testing.T) {
	for _, x := range []struct {
		sizes []int
		first int
	}{
		{nil, 0},
		{[]int{10}, 1},
		{[]int{252}, 1},
		{[]int{10, 10}, 1},
		{[]int{10, 100}, 1},
		{[]int{100, 10}, 1},
		{[]int{10, 10, 10}, 1},
		{[]int{100, 10, 10}, 1},
		{[]int{10, 10, 100}, 2},
		{[]int{10, 100, 10}, 1},
		{[]int{10, 100, 11}, 2},
		{[]int{11, 100, 10}, 1},
		{[]int{10, 10, 10, 10}, 2},
		{[]int{10, 10, 10, 10, 10}, 2},
		{[]int{20, 10, 10, 10, 10}, 2},
		{[]int{10, 10, 10, 10, 20}, 3},
		{[]int{10, 10, 252, 10, 10}, 2},
		{[]int{10, 10, 252, 10, 10, 10}, 3},
		{[]int{10, 10, 10, 252, 10, 10}, 3},
		{[]int{4, 4, 4, 4, 4, 252}, 5},
		{[]int{252, 4, 4, 4, 4, 4}, 1},
		{[]int{252, 252, 252}, 1},
		{[]int{252, 252, 252, 252}, 2},
		{[]int{152, 152, 152, 51, 252}, 2},
		{[]int{152, 152, 150, 53, 252}, 3},
		{[]int{252, 252, 4, 250}, 2},
		{[]int{254, 252, 253}, 1},
	} {
		l := sized(x.sizes...)
		a, b := page.Split(l)
		if len(a) != x.first || !slices.Equal(a, l[:x.first]) || !slices.Equal(b, l[x.first:]) {
			t.Errorf("P10.1: Split of sizes %d: %d and %d entries, want %d first", x.sizes, len(a), len(b), x.first)
		}
		wantSplit(t, fmt.Sprint(x.sizes), l)
	}
	if a, b := page.Split(entries("a", "")); !slices.Equal(a, entries("a", "")) || len(b) != 0 {
		t.Errorf("P10.1: Split of one: %v, %v", a, b)
	}
	if a, b := page.Split([]api.Entry{}); len(a) != 0 || len(b) != 0 {
		t.Errorf("P10.1: Split of none: %v, %v", a, b)
	}
}

// TestHead: each Kind and each Link, with and without entries.
func TestHead(t *testing.T) {
	l := entries("", "", "k", "v")
	for kind := range 256 {
		p := page.Page{Kind: kind, Link: 0xabcd, L: l}
		wantPage(t, "kinds", p, filled(string([]byte{byte(kind), 0xab, 0xcd, 0, 2})+"\x00\x00\x01\x01kv"))
	}
	for link := range 65536 {
		p := page.Page{Link: link}
		want := string([]byte{0, byte(link >> 8), byte(link), 0, 0})
		if b, err := page.Write(p); err != api.OK || len(b) != 512 || b[:5] != want {
			t.Fatalf("P10.1: Link %d: %.20x, %d", link, b, err)
		}
		if got, err := page.Read(filled(want)); err != api.OK || !same(got, p) {
			t.Fatalf("P10.2: Link %d: %v, %d", link, got, err)
		}
	}
	for _, n := range []int{-1, 256, 257, 511, 512, 65535, -255, -256, 1 << 16, 1 << 32, 1<<32 + 1, math.MaxInt, math.MinInt} {
		wantRefused(t, "Kind", page.Page{Kind: n}, api.ErrArg)
		wantRefused(t, "Kind", page.Page{Kind: n, Link: 1, L: l}, api.ErrArg)
	}
	for _, n := range []int{-1, 65536, 65537, -65535, -65536, 1 << 24, 1 << 32, 1<<32 + 1, math.MaxInt, math.MinInt} {
		wantRefused(t, "Link", page.Page{Link: n}, api.ErrArg)
		wantRefused(t, "Link", page.Page{Kind: 1, Link: n, L: l}, api.ErrArg)
	}
}

// TestLengths: keys and values of each length about their ends, alone and
// beside another entry.
func TestLengths(t *testing.T) {
	lengths := []int{0, 1, 2, 99, 100, 101, 102, 149, 150, 151, 152, 255, 256, 257, 300, 356, 400, 512, 65536, 65600}
	for _, key := range lengths {
		for _, value := range lengths {
			e := api.Entry{Key: times(key, "k"), Value: times(value, "v")}
			want := api.OK
			if key > 100 || value > 150 {
				want = api.ErrLong
			}
			for i, l := range [][]api.Entry{{e}, {e, {Key: "z"}}, {{Key: "\x00"}, {Key: "\x01", Value: "1"}, e}} {
				if i == 2 && key == 0 {
					continue
				}
				p := page.Page{Kind: 7, Link: 9, L: l}
				if got := errorOf(p); got != want {
					t.Fatalf("the test's own error of %s: %d", short(p), got)
				}
				wantWrite(t, "lengths", p)
			}
		}
	}
}

// TestRoom: entries that take just the room, or one byte less or more.
func TestRoom(t *testing.T) {
	for _, x := range []struct {
		sizes []int
		want  api.Errno
	}{
		{[]int{252, 251, 4}, 0},
		{[]int{252, 252, 4}, 3},
		{[]int{252, 250, 4}, 0},
		{[]int{4, 252, 251}, 0},
		{[]int{4, 252, 252}, 3},
		{[]int{152, 152, 152, 51}, 0},
		{[]int{152, 152, 152, 50}, 0},
		{[]int{152, 152, 152, 52}, 3},
		{[]int{169, 169, 169}, 0},
		{[]int{169, 169, 170}, 3},
		{[]int{252, 252, 252}, 3},
		{[]int{200, 200, 200}, 3},
	} {
		p := page.Page{L: sized(x.sizes...)}
		if errorOf(p) != x.want {
			t.Fatalf("the test's own error of sizes %d: %d", x.sizes, errorOf(p))
		}
		wantWrite(t, "room", p)
	}
	// As many as a page can hold: one of 2 bytes, and 168 of 3.
	l := make([]api.Entry, 1)
	for i := range 168 {
		l = append(l, api.Entry{Key: string([]byte{byte(i)})})
	}
	if sizeOf(l) != 506 {
		t.Fatalf("the test's own entries have %d bytes", sizeOf(l))
	}
	wantWrite(t, "small ones", page.Page{L: l})
	l[168].Value = "v"
	wantWrite(t, "small ones, just the room", page.Page{L: l})
	l[7].Value = "v"
	wantWrite(t, "small ones, one byte more", page.Page{L: l})
	l[7].Value = ""
	wantWrite(t, "small ones, one entry more", page.Page{L: append(l, api.Entry{Key: "\xf0"})})
	// So many that two bytes can't say it, and so many that they say none.
	for _, n := range []int{256, 257, 65535, 65536, 65537} {
		var l []api.Entry
		for i := range n {
			l = append(l, api.Entry{Key: fmt.Sprintf("%05d", i)})
		}
		wantRefused(t, "many", page.Page{L: l}, api.ErrLong)
		wantRefused(t, "many alike", page.Page{L: make([]api.Entry, n)}, api.ErrLong)
	}
}

// TestOrder: keys go byte by byte, and none stands there twice.
func TestOrder(t *testing.T) {
	rising := []string{"", "\x00", "\x00\x00", "\x00\x01", "\x01", "A", "Z", "a", "a\x00", "aa", "ab", "b", "\x7f", "\x80", "\xc3", "\xc3\xa4", "\xe2\x82\xac", "\xff", "\xff\x00", "\xff\xff"}
	var all []api.Entry
	for i, a := range rising {
		all = append(all, api.Entry{Key: a, Value: times(i, "v")})
		for k, b := range rising {
			p := page.Page{Kind: 1, L: entries(a, "1", b, "2")}
			want := api.OK
			if i >= k {
				want = api.ErrForm
			}
			if errorOf(p) != want {
				t.Fatalf("the test's own error of %q, %q: %d", a, b, errorOf(p))
			}
			wantWrite(t, "two", p)
			wantRead(t, "two", blockOf(p))
		}
	}
	wantWrite(t, "all", page.Page{L: all})
	for i := range len(all) - 1 {
		l := slices.Clone(all)
		l[i], l[i+1] = l[i+1], l[i]
		wantRefused(t, "two that fall", page.Page{L: l}, api.ErrForm)
		wantNone(t, "two that fall", blockOf(page.Page{L: l}))
		l[i+1].Key = l[i].Key
		wantRefused(t, "two of one key", page.Page{L: l}, api.ErrForm)
		wantNone(t, "two of one key", blockOf(page.Page{L: l}))
	}
	for _, key := range rising {
		wantFind(t, all, key)
		wantFind(t, all, key+"\x00")
	}
}

// TestSeveralErrors: the first one that the chapter names is answered.
func TestSeveralErrors(t *testing.T) {
	long := entries(times(101, "k"), "")
	wide := entries("k", times(151, "v"))
	much := sized(252, 252, 252)
	fall := entries("b", "", "a", "")
	twice := entries("a", "", "a", "")
	none := [][]api.Entry{nil, long, wide, much, fall, twice, slices.Concat(fall, long), slices.Concat(much, wide), slices.Concat(much, much)}
	for _, l := range none {
		for _, head := range [][2]int{{-1, 0}, {256, 0}, {0, -1}, {0, 65536}, {-1, -1}, {256, 65536}, {255, 65536}, {256, 65535}} {
			wantRefused(t, "all", page.Page{Kind: head[0], Link: head[1], L: l}, api.ErrArg)
		}
	}
	for _, l := range [][]api.Entry{
		slices.Concat(fall, long), slices.Concat(long, fall), slices.Concat(twice, wide), slices.Concat(wide, twice),
		slices.Concat(much, much), slices.Concat(fall, much), slices.Concat(much, twice), slices.Concat(long, long), slices.Concat(long, wide, much, fall),
		{{Key: "b"}, {Key: "a", Value: times(151, "v")}, {Key: "a"}},
	} {
		wantRefused(t, "long and not sorted", page.Page{L: l}, api.ErrLong)
	}
}

// TestReadLengths: a block has 512 bytes.
func TestReadLengths(t *testing.T) {
	wantNone(t, "nothing", "")
	x := &texter{11}
	for _, p := range []page.Page{{}, {Kind: 255, Link: 65535}, {Kind: 1, Link: 2, L: entries("a", "b", "c", "d")}, {L: sized(252, 251, 4)}} {
		b := blockOf(p)
		wantPage(t, "whole", p, b)
		for n := range 512 {
			wantNone(t, "cut", b[:n])
			wantNone(t, "cut in front", b[512-n:])
		}
		for _, more := range []string{"\x00", "\x01", "\x00\x00", filled(""), b, x.text(100), times(65536, "\x00"), times(65536-512, "\x00")} {
			wantNone(t, "more", b+more)
			wantNone(t, "more in front", more+b)
		}
	}
}

// TestEveryByte: each byte of some blocks, changed to each other one.
func TestEveryByte(t *testing.T) {
	for what, p := range map[string]page.Page{
		"none":   {},
		"one":    {Kind: 1, Link: 258, L: entries("a", "xy")},
		"three":  {Kind: 255, Link: 65535, L: entries("", "1", "\x00", "", "\xff", "2")},
		"zeros":  {L: entries("", "", "\x00", "\x00\x00", "\x00\x00", "")},
		"a full": {Kind: 2, Link: 3, L: sized(252, 251, 4)},
		"small":  {Kind: 2, L: sized(5, 5, 5, 5, 5, 5, 5, 5, 5, 5, 5, 5)},
		"great":  {L: entries(times(100, "k"), times(150, "v"))},
	} {
		b := []byte(blockOf(p))
		right := string(b)
		for at := range b {
			was := b[at]
			for c := range 256 {
				b[at] = byte(c)
				got, err := page.Read(string(b))
				want, ok := pageOf(string(b))
				if !ok {
					want = page.Page{}
				}
				if ok != (err == api.OK) || !ok && err != api.ErrForm || !same(got, want) {
					t.Fatalf("P10.1: %s: Read with %02x at %d: %s, %d", what, c, at, short(got), err)
				}
				if again, _ := page.Write(got); ok && again != string(b) {
					t.Fatalf("P10.2: %s: with %02x at %d: %.100x", what, c, at, again)
				}
			}
			b[at] = was
		}
		wantRead(t, what, right)
	}
}

// TestReadByHand: blocks that are none, each for one reason.
func TestReadByHand(t *testing.T) {
	one := bytesOf("01 01 02 00 01 01 02 61 78 79")
	wantRead(t, "right", filled(one))
	entry := func(key, value int) string {
		return string([]byte{byte(key), byte(value)}) + times(key, "k") + times(value, "v")
	}
	most := entry(100, 150)
	for what, b := range map[string]string{
		"the count is one too great":    filled("\x01\x01\x02\x00\x02" + one[5:]),
		"the count is one too small":    filled("\x01\x01\x02\x00\x00" + one[5:]),
		"the count's bytes are turned":  filled("\x01\x01\x02\x01\x00" + one[5:]),
		"the count is the greatest":     filled("\x01\x01\x02\xff\xff" + one[5:]),
		"the greatest count of nothing": filled("\x00\x00\x00\xff\xff"),
		"a count of two of nothing":     filled("\x00\x00\x00\x00\x02"),
		"a byte behind the entries":     filled(one + "\x01"),
		"a byte at the end":             filled(one)[:511] + "\x01",
		"a byte behind no entries":      filled("\x00\x00\x00\x00\x00\x80"),
		"a key of 101":                  filled("\x00\x00\x00\x00\x01" + entry(101, 0)),
		"a value of 151":                filled("\x00\x00\x00\x00\x01" + entry(1, 151)),
		"a key of 255":                  filled("\x00\x00\x00\x00\x01" + entry(255, 0)),
		"a value of 255":                filled("\x00\x00\x00\x00\x01" + entry(0, 255)),
		"both of 250":                   filled("\x00\x00\x00\x00\x01" + entry(250, 250)),
		"the second of the same key":    filled("\x00\x00\x00\x00\x02" + "\x01\x00a" + "\x01\x01av"),
		"the second below":              filled("\x00\x00\x00\x00\x02" + "\x01\x00b" + "\x01\x01av"),
		"two of no key":                 filled("\x00\x00\x00\x00\x02"),
		"the third below":               filled("\x00\x00\x00\x00\x03" + "\x00\x00" + "\x01\x00b" + "\x01\x00a"),
	} {
		if p, ok := pageOf(b); ok {
			t.Fatalf("the test's own page of %s: %s", what, short(p))
		}
		wantNone(t, what, b)
	}
	// An entry that takes the last bytes of the block, and one that wants more.
	for _, n := range []int{98, 99, 100, 101, 102, 149, 150, 151} {
		b := "\x00\x00\x00\x00\x03" + most + "\x01\x96l" + times(150, "v") + "\x01" + string([]byte{byte(n)}) + "m"
		wantRead(t, "at the end", (b + times(150, "v"))[:512])
	}
	full := "\x00\x00\x00\x00\x03" + most + "\x01\x96l" + times(150, "v") + "\x01\x63m" + times(99, "v")
	if len(full) != 512 {
		t.Fatalf("the test's own block has %d bytes", len(full))
	}
	wantPage(t, "full", page.Page{L: entries(times(100, "k"), times(150, "v"), "l", times(150, "v"), "m", times(99, "v"))}, full)
	wantNone(t, "the last one too long by one", full[:410]+"\x64"+full[411:])
	// Only the first byte of an entry has room.
	lone := "\x00\x00\x00\x00\x04" + most + "\x01\x96l" + times(150, "v") + "\x01\x62m" + times(98, "v") + "\x00"
	wantNone(t, "one byte of an entry", lone)
	wantRead(t, "one byte behind", lone[:4]+"\x03"+lone[5:])
}

// TestWalkBlocks: pages of all kinds, right ones and others, and texts about
// them.
func TestWalkBlocks(t *testing.T) {
	x := &texter{21}
	right := 0
	for range 6000 {
		p := page.Page{Kind: x.below(256), Link: x.below(65536), L: x.fitting()}
		if errorOf(p) != api.OK {
			t.Fatalf("the test's own page: %s", short(p))
		}
		b := blockOf(p)
		wantPage(t, "a walk", p, b)
		changed := []byte(b)
		for range 1 + x.below(3) {
			changed[x.below(1+x.below(512))] ^= byte(x.number())
		}
		if _, ok := pageOf(string(changed)); ok {
			right++
		}
		wantRead(t, "changed", string(changed))
		wantRead(t, "chance", x.text(512))
		switch x.below(5) {
		case 0:
			p.Kind += 256 * (x.below(5) - 2)
		case 1:
			p.Link += 65536 * (x.below(5) - 2)
		case 2:
			p.L = append(p.L, x.sorted(3, 100, 150)...)
		case 3:
			p.L = append(p.L, x.sorted(2, 110, 160)...)
		case 4:
			p.L = x.sorted(4, 130, 200)
		}
		wantWrite(t, "another", p)
	}
	if right < 500 || right > 5500 {
		t.Errorf("%d of 6000 changed blocks are right: the walk is no walk", right)
	}
}

// TestSize: of any list.
func TestSize(t *testing.T) {
	x := &texter{31}
	for _, c := range []struct {
		l    []api.Entry
		want int
	}{
		{nil, 0}, {[]api.Entry{}, 0}, {make([]api.Entry, 1), 2}, {make([]api.Entry, 1000), 2000},
		{entries("a", ""), 3}, {entries("", "a"), 3}, {entries("ab", "cde"), 7}, {entries("b", "", "a", "", "a", "x"), 10},
		{entries(times(100, "k"), times(150, "v")), 252}, {entries(times(1<<20, "k"), times(1<<21, "v")), 3<<20 + 2},
	} {
		if n := page.Size(c.l); n != c.want {
			t.Errorf("P10.1: Size of %d entries: %d, want %d", len(c.l), n, c.want)
		}
	}
	for range 500 {
		l := x.sorted(40, 300, 300)
		slices.Reverse(l)
		if n := page.Size(l); n != sizeOf(l) {
			t.Errorf("P10.1: Size of %d entries: %d, want %d", len(l), n, sizeOf(l))
		}
	}
}

// TestLists: Find, Put and Delete of each key that is there, and of those
// between, below and above.
func TestLists(t *testing.T) {
	for n := range 20 {
		var l []api.Entry
		for i := range n {
			l = append(l, api.Entry{Key: string([]byte{byte('b' + i), 'm'}), Value: fmt.Sprint(i)})
		}
		keys := []string{"", "\x00", "a", "b", "bl", "\xff", "zz", times(101, "k"), times(100, "\xff")}
		for _, e := range l {
			keys = append(keys, e.Key, e.Key[:1], e.Key+"\x00", e.Key[:1]+"l\xff", e.Key[:1]+"n")
		}
		for _, key := range keys {
			wantFind(t, l, key)
			wantDelete(t, l, key)
			for _, value := range []string{"", "new", "1", times(151, "v"), times(5000, "v")} {
				wantPut(t, l, key, value)
			}
		}
	}
	if n, ok := page.Find(nil, ""); n != 0 || ok {
		t.Errorf("P10.1: Find in no list: %d, %v", n, ok)
	}
	if n, ok := page.Find(entries("", "v"), ""); n != 0 || !ok {
		t.Errorf("P10.1: Find of the empty key: %d, %v", n, ok)
	}
	if got := page.Put(nil, "", ""); !slices.Equal(got, make([]api.Entry, 1)) {
		t.Errorf("P10.3: Put of nothing in no list: %v", got)
	}
	if got, ok := page.Delete(nil, "a"); len(got) != 0 || ok {
		t.Errorf("P10.3: Delete in no list: %v, %v", got, ok)
	}
	if got, ok := page.Delete(entries("", "v"), ""); len(got) != 0 || !ok {
		t.Errorf("P10.3: Delete of the only one: %v, %v", got, ok)
	}
}

// TestWalkLists: puts and deletes one behind the other, against a map.
func TestWalkLists(t *testing.T) {
	for seed := range uint64(60) {
		x := &texter{seed}
		model := map[string]string{}
		var l []api.Entry
		keys := 1 + x.below(60)
		for range 400 {
			key := fmt.Sprint(x.below(keys))
			if x.below(5) == 0 {
				key = x.text(x.below(120))
			}
			if x.below(2) == 0 {
				value := x.text(x.below(200))
				wantPut(t, l, key, value)
				l = page.Put(l, key, value)
				model[key] = value
			} else {
				_, there := model[key]
				wantDelete(t, l, key)
				var ok bool
				if l, ok = page.Delete(l, key); ok != there {
					t.Fatalf("P10.3: Delete of %q: %v", key, ok)
				}
				delete(model, key)
			}
			wantFind(t, l, fmt.Sprint(x.below(keys)))
		}
		var want []api.Entry
		for _, key := range slices.Sorted(maps.Keys(model)) {
			want = append(want, api.Entry{Key: key, Value: model[key]})
		}
		if !slices.Equal(l, want) {
			t.Fatalf("P10.3: walk %d: %d entries, want %d", seed, len(l), len(want))
		}
	}
}

// TestGreatLists: lists far above a page's.
func TestGreatLists(t *testing.T) {
	var l []api.Entry
	const n = 100000
	for i := range n {
		l = append(l, api.Entry{Key: fmt.Sprintf("%06d", 2*i), Value: "v"})
	}
	for _, i := range []int{0, 1, n / 3, n / 2, n - 1} {
		if at, ok := page.Find(l, l[i].Key); at != i || !ok {
			t.Errorf("P10.1: Find of entry %d: %d, %v", i, at, ok)
		}
		key := fmt.Sprintf("%06d", 2*i+1)
		if at, ok := page.Find(l, key); at != i+1 || ok {
			t.Errorf("P10.1: Find behind entry %d: %d, %v", i, at, ok)
		}
		if got := page.Put(l, key, "new"); len(got) != n+1 || got[i+1].Value != "new" || got[i] != l[i] || got[n].Key < key {
			t.Errorf("P10.3: Put behind entry %d", i)
		}
		if got := page.Put(l, l[i].Key, "new"); len(got) != n || got[i].Value != "new" {
			t.Errorf("P10.3: Put instead of entry %d", i)
		}
		if got, ok := page.Delete(l, l[i].Key); !ok || !slices.Equal(got, slices.Concat(l[:i], l[i+1:])) {
			t.Errorf("P10.3: Delete of entry %d", i)
		}
	}
	if a, b := page.Split(l); len(a) != n/2 || len(b) != n/2 || !slices.Equal(slices.Concat(a, b), l) {
		t.Errorf("P10.1: Split of many: %d and %d", len(a), len(b))
	}
	if page.Size(l) != 9*n {
		t.Errorf("P10.1: Size of many: %d", page.Size(l))
	}
	great := entries("a", "1", "b", times(1<<20, "v"), "c", "2", times(1<<20, "d"), "")
	for _, e := range great {
		wantFind(t, great, e.Key)
		wantDelete(t, great, e.Key)
		wantPut(t, great, e.Key, "x")
	}
	wantSplit(t, "great ones", great)
	wantRefused(t, "great ones", page.Page{L: great}, api.ErrLong)
}

// TestNotSorted: of lists that are not sorted Find, Put and Delete end, and
// Split and Size are as said.
func TestNotSorted(t *testing.T) {
	x := &texter{41}
	for range 3000 {
		var l []api.Entry
		for range x.below(30) {
			l = append(l, api.Entry{Key: x.text(x.below(3)), Value: x.text(x.below(200))})
		}
		was := slices.Clone(l)
		key := x.text(x.below(3))
		page.Find(l, key)
		page.Put(l, key, "v")
		page.Delete(l, key)
		wantSplit(t, "not sorted", l)
		wantWrite(t, "not sorted", page.Page{L: l})
		if !slices.Equal(l, was) {
			t.Fatal("P10.5: the list has changed")
		}
	}
}

// TestSplitAll: all lists of up to six entries of some sizes.
func TestSplitAll(t *testing.T) {
	sizes := []int{4, 5, 9, 13, 100, 252}
	var chosen []int
	var all func(n int)
	all = func(n int) {
		wantSplit(t, "all", sized(chosen...))
		if n == 0 {
			return
		}
		for _, k := range sizes {
			chosen = append(chosen, k)
			all(n - 1)
			chosen = chosen[:len(chosen)-1]
		}
	}
	all(6)
}

// TestSplitFits: a full page and one entry more, wherever that stands.
func TestSplitFits(t *testing.T) {
	x := &texter{51}
	near := 0
	for range 20000 {
		var l []api.Entry
		if x.below(2) == 0 {
			l = x.fitting()
		}
		if x.below(2) == 0 { // just full
			for sizeOf(l) < 507-252 {
				l = append(l, api.Entry{Key: x.text(x.below(101)), Value: x.text(x.below(151))})
			}
			for rest := 507 - sizeOf(l); rest >= 2; rest = 507 - sizeOf(l) {
				n := min(rest-2, 150)
				l = append(l, api.Entry{Value: x.text(n)})
			}
		}
		more := api.Entry{Key: times(100, "k"), Value: times(150, "v")}
		if x.below(3) == 0 {
			more = api.Entry{Key: x.text(x.below(101)), Value: x.text(x.below(151))}
		}
		l = slices.Insert(l, x.below(len(l)+1), more)
		if sizeOf(l) > 507+252 {
			t.Fatalf("the test's own list has %d bytes", sizeOf(l))
		}
		if sizeOf(l) >= 507+250 {
			near++
		}
		wantSplit(t, "a full page and one more", l)
	}
	if near < 2000 {
		t.Errorf("%d of 20000 lists are about the greatest: the walk is no walk", near)
	}
	// Three of the greatest entries, and what else there is room for.
	for a := 4; a <= 252; a++ {
		for _, l := range [][]api.Entry{sized(252, 252, a), sized(252, a, 252), sized(a, 252, 252), sized(252-a/2, 252, 252-a/3), sized(250, a, 250, 4), sized(4, 251, a, 252)} {
			wantSplit(t, "great ones", l)
		}
	}
	// A page is split for one entry more, and both parts are pages.
	for range 3000 {
		l := page.Put(x.fitting(), times(1+x.below(100), "k"), x.text(x.below(151)))
		if sizeOf(l) <= 507 {
			continue
		}
		first, second := page.Split(l)
		wantWrite(t, "a part", page.Page{Kind: 1, L: first})
		wantWrite(t, "a part", page.Page{Kind: 1, L: second})
		if len(first) == 0 || len(second) == 0 {
			t.Fatalf("P10.4: %d and %d entries", len(first), len(second))
		}
		if b, err := page.Write(page.Page{L: first}); b == "" || err != api.OK {
			t.Fatalf("P10.4: the first part is no page: %d", err)
		}
		if b, err := page.Write(page.Page{L: second}); b == "" || err != api.OK {
			t.Fatalf("P10.4: the second part is no page: %d", err)
		}
	}
}

// roomy is a list with spare room, in which something stands, and which may
// not change; check tells whether all of it is as it was.
func roomy(l []api.Entry, spare int) (list []api.Entry, check func() bool) {
	whole := slices.Clone(l)
	for i := range spare {
		whole = append(whole, api.Entry{Key: "spare", Value: fmt.Sprint(i)})
	}
	was := slices.Clone(whole)
	return whole[:len(l)], func() bool { return slices.Equal(whole, was) }
}

// share tells whether two lists have memory in common, their spare room too.
func share(a, b []api.Entry) bool {
	begin := func(l []api.Entry) uintptr { return uintptr(unsafe.Pointer(unsafe.SliceData(l))) }
	end := func(l []api.Entry) uintptr { return begin(l) + uintptr(cap(l))*unsafe.Sizeof(api.Entry{}) }
	return cap(a) > 0 && cap(b) > 0 && begin(a) < end(b) && begin(b) < end(a)
}

// scribble writes over a list and its spare room.
func scribble(l []api.Entry) {
	l = l[:cap(l)]
	for i := range l {
		l[i] = api.Entry{Key: "scribbled", Value: "over"}
	}
}

// TestHandedIn: no call changes a list or its spare room, and what is done to
// an answer shows nowhere.
func TestHandedIn(t *testing.T) {
	x := &texter{61}
	for round := range 400 {
		own := x.fitting()
		if round < 3 {
			own = own[:0]
		}
		for _, spare := range []int{0, 1, 2, 30} {
			l, unchanged := roomy(own, spare)
			keys := []string{"", "\xff\xff", x.text(3)}
			if len(l) > 0 {
				keys = append(keys, l[0].Key, l[len(l)-1].Key, l[x.below(len(l))].Key)
			}
			for _, key := range keys {
				page.Find(l, key)
				put := page.Put(l, key, "new")
				less, _ := page.Delete(l, key)
				first, second := page.Split(l)
				page.Size(l)
				block, err := page.Write(page.Page{L: l})
				if err != api.OK {
					t.Fatalf("Write of a fitting list: %d", err)
				}
				read, _ := page.Read(block)
				again, _ := page.Read(block)
				lists := [][]api.Entry{l, put, less, first, second, read.L, again.L}
				for i, a := range lists {
					for k, b := range lists {
						if i != k && share(a, b) {
							t.Fatalf("P10.5: lists %d and %d share memory (%d entries, %d spare)", i, k, len(l), spare)
						}
					}
				}
				for _, a := range lists[1:] {
					scribble(a)
				}
				if !unchanged() {
					t.Fatalf("P10.5: a list of %d and %d spare has changed", len(l), spare)
				}
				if block != blockOf(page.Page{L: own}) {
					t.Fatal("P10.5: the block has changed")
				}
			}
		}
	}
}

// TestPutEverywhere: at each place of a list with room for one more, the list
// stays as it is.
func TestPutEverywhere(t *testing.T) {
	for n := range 12 {
		var own []api.Entry
		for i := range n {
			own = append(own, api.Entry{Key: string([]byte{byte('b' + 2*i)}), Value: "v"})
		}
		for _, spare := range []int{0, 1, 5} {
			l, unchanged := roomy(own, spare)
			for c := byte('a'); c <= byte('b'+2*n); c++ {
				wantPut(t, l, string([]byte{c}), "new")
				wantDelete(t, l, string([]byte{c}))
				if !unchanged() {
					t.Fatalf("P10.5: Put or Delete of %c changed a list of %d with %d spare", c, n, spare)
				}
			}
		}
	}
}

// TestTextsAreCopies: a block that Read was handed is not kept.
func TestTextsAreCopies(t *testing.T) {
	p := page.Page{Kind: 3, Link: 4, L: entries("a", "1", "b", times(150, "v"), times(100, "c"), "")}
	b := []byte(blockOf(p))
	got, err := page.Read(unsafe.String(&b[0], len(b)))
	if err != api.OK {
		t.Fatalf("Read: %d", err)
	}
	for i := range b {
		b[i] = 0xee
	}
	if !same(got, p) {
		t.Errorf("P10.5: a page changed with its block: %s", short(got))
	}
}

// TestRefusedLists: beside an error there is nothing else.
func TestRefusedLists(t *testing.T) {
	x := &texter{71}
	for range 2000 {
		p, err := page.Read(x.text(512))
		if err != api.OK && (p.Kind != 0 || p.Link != 0 || len(p.L) != 0) {
			t.Fatalf("R2: Read: %s, %d", short(p), err)
		}
	}
	b := blockOf(page.Page{Kind: 9, Link: 9, L: entries("a", "1", "b", "2")})
	p, err := page.Read(b[:511] + "\x01")
	if err != api.ErrForm || p.Kind != 0 || p.Link != 0 || len(p.L) != 0 {
		t.Errorf("R2: Read of a block with a byte too many: %s, %d", short(p), err)
	}
}

// told is what a row of calls answers, as one text.
func told(seed uint64) string {
	x := &texter{seed}
	var s strings.Builder
	for range 60 {
		l := x.fitting()
		key, value := x.text(x.below(4)), x.text(x.below(150))
		n, ok := page.Find(l, key)
		less, was := page.Delete(l, key)
		first, second := page.Split(l)
		b, err := page.Write(page.Page{Kind: x.below(300), Link: x.below(70000), L: l})
		p, fault := page.Read(b)
		fmt.Fprintf(&s, "%d %v %q %q %v %q %q %q %d %v %d %d\n", n, ok, page.Put(l, key, value), less, was, first, second, b, err, p, fault, page.Size(l))
	}
	return s.String()
}

// TestTwice: the same calls answer the same, each time, also beside others.
func TestTwice(t *testing.T) {
	const seeds = 8
	var want [seeds]string
	for i := range want {
		want[i] = told(uint64(i))
	}
	var wg sync.WaitGroup
	var got [4 * seeds]string
	for i := range got {
		wg.Go(func() { got[i] = told(uint64(i % seeds)) })
	}
	wg.Wait()
	for i := range got {
		if got[i] != want[i%seeds] {
			t.Errorf("R4: row %d told otherwise", i)
		}
	}
}

// TestBeside: several may go by one list at the same time.
func TestBeside(t *testing.T) {
	own := sized(40, 40, 40, 40, 40, 40, 40, 40)
	l, unchanged := roomy(own, 8)
	var wg sync.WaitGroup
	for i := range 16 {
		wg.Go(func() {
			for k := range 200 {
				key := l[(i+k)%len(l)].Key
				page.Find(l, key)
				page.Put(l, key, "new")
				page.Put(l, key+"z", "new")
				page.Put(l, "\xff", "new")
				page.Delete(l, key)
				page.Split(l)
				page.Write(page.Page{L: l})
			}
		})
	}
	wg.Wait()
	if !unchanged() {
		t.Error("P10.5: the list has changed")
	}
}
