package tuple_test

import (
	"encoding/hex"
	"math"
	"math/big"
	"slices"
	"strings"
	"sync"
	"testing"
	"unsafe"

	"coffer/api"
	"coffer/tuple"
)

// texter tells texts and numbers that look like chance and are the same each time.
type texter struct{ x uint64 }

func (t *texter) number() uint64 {
	t.x += 0x9e3779b97f4a7c15
	z := t.x
	z = (z ^ z>>30) * 0xbf58476d1ce4e5b9
	z = (z ^ z>>27) * 0x94d049bb133111eb
	return z ^ z>>31
}

func (t *texter) below(n int) int { return int(t.number() % uint64(n)) }

// text has n bytes of all kinds; the least, the greatest and those that mean
// something in a list's text come often.
func (t *texter) text(n int) string {
	const often = "\x00\x00\x00\x01\x02\x03\x07\x08\x09\x0a\x7f\x80\xfe\xffaab"
	b := make([]byte, n)
	for i := range b {
		if t.below(4) > 0 {
			b[i] = often[t.below(len(often))]
		} else {
			b[i] = byte(t.number())
		}
	}
	return string(b)
}

// part is one of every kind, whose text has at most most bytes.
func (t *texter) part(most int) tuple.Part {
	switch t.below(4) {
	case 0:
		return rise(t.n())
	case 1:
		return fall(t.n())
	}
	return text(t.text(t.below(most + 1)))
}

// n is a number of any size, near a power of two or not.
func (t *texter) n() int64 {
	n := int64(t.number()) >> t.below(64)
	if t.below(2) == 0 {
		return n
	}
	return int64(uint64(1)<<t.below(64) + uint64(t.below(3)) - 1)
}

func (t *texter) list(parts, most int) []tuple.Part {
	var l []tuple.Part
	for range t.below(parts + 1) {
		l = append(l, t.part(most))
	}
	return l
}

func text(s string) tuple.Part { return tuple.Part{Kind: 1, Text: s} }
func rise(n int64) tuple.Part  { return tuple.Part{Kind: 2, N: n} }
func fall(n int64) tuple.Part  { return tuple.Part{Kind: 3, N: n} }

// list is easier to read in a table.
func list(parts ...tuple.Part) []tuple.Part { return parts }

// digits is a text by its bytes in base sixteen, blanks left out.
func digits(s string) string {
	b, err := hex.DecodeString(strings.ReplaceAll(s, " ", ""))
	if err != nil {
		panic(err)
	}
	return string(b)
}

// textOfPart is the chapter's text of a part: groups are counted ahead, numbers
// are reckoned as how far they stand from their end.
func textOfPart(p tuple.Part) string {
	if p.Kind == 1 {
		groups := max(1, (len(p.Text)+7)/8)
		full := p.Text + strings.Repeat("\x00", groups*8-len(p.Text))
		s := "\x01"
		for g := range groups - 1 {
			s += full[g*8:g*8+8] + "\x09"
		}
		return s + full[groups*8-8:] + string(rune(len(p.Text)-8*(groups-1)))
	}
	from, to := big.NewInt(math.MinInt64), big.NewInt(p.N)
	if p.Kind == 3 {
		from, to = to, big.NewInt(math.MaxInt64)
	}
	far := new(big.Int).Sub(to, from)
	return string(rune(p.Kind)) + string(far.FillBytes(make([]byte, 8)))
}

func textOf(l []tuple.Part) string {
	s := ""
	for _, p := range l {
		s += textOfPart(p)
	}
	return s
}

// listOf is the list whose text b is: each part is guessed from its bytes, and
// is right just if its text, made anew, is what stands there.
func listOf(b string) ([]tuple.Part, bool) {
	var l []tuple.Part
	for b != "" {
		p, ok := guess(b)
		if !ok || !strings.HasPrefix(b, textOfPart(p)) {
			return nil, false
		}
		l = append(l, p)
		b = b[len(textOfPart(p)):]
	}
	return l, true
}

func guess(b string) (tuple.Part, bool) {
	if len(b) < 9 || b[0] < 1 || b[0] > 3 {
		return tuple.Part{}, false
	}
	if b[0] != 1 {
		far := new(big.Int).SetBytes([]byte(b[1:9]))
		if b[0] == 3 {
			return fall(new(big.Int).Sub(big.NewInt(math.MaxInt64), far).Int64()), true
		}
		return rise(new(big.Int).Add(big.NewInt(math.MinInt64), far).Int64()), true
	}
	own := ""
	for at := 1; at+9 <= len(b); at += 9 {
		count := int(b[at+8])
		if count != 9 {
			return text(own + b[at:at+min(8, count)]), true
		}
		own += b[at : at+8]
	}
	return tuple.Part{}, false
}

// orderOf is the order of lists, asked step by step, also of what is no part.
func orderOf(a, b []tuple.Part) int {
	for i := range min(len(a), len(b)) {
		p, q := a[i], b[i]
		switch {
		case p.Kind < q.Kind:
			return -1
		case p.Kind > q.Kind:
			return 1
		case p.Text < q.Text:
			return -1
		case p.Text > q.Text:
			return 1
		case p.N != q.N && (p.N < q.N) == (p.Kind != 3):
			return -1
		case p.N != q.N:
			return 1
		}
	}
	switch {
	case len(a) < len(b):
		return -1
	case len(a) > len(b):
		return 1
	}
	return 0
}

func beginsWith(l, begin []tuple.Part) bool {
	return len(l) >= len(begin) && slices.Equal(l[:len(begin)], begin)
}

func wantWrite(t *testing.T, promise string, l []tuple.Part, want string, err api.Errno) {
	t.Helper()
	if got, e := tuple.Write(l); got != want || e != err {
		t.Errorf("%s: Write(%.200v) = %.200x, %d, want %.200x, %d", promise, l, got, e, want, err)
	}
}

func wantLimits(t *testing.T, promise string, l []tuple.Part, from, to string, err api.Errno) {
	t.Helper()
	if f, o, e := tuple.Limits(l); f != from || o != to || e != err {
		t.Errorf("%s: Limits(%.200v) = %.200x, %.200x, %d, want %.200x, %.200x, %d", promise, l, f, o, e, from, to, err)
	}
}

func wantRead(t *testing.T, promise, b string, want []tuple.Part, err api.Errno) {
	t.Helper()
	if got, e := tuple.Read(b); !slices.Equal(got, want) || e != err {
		t.Errorf("%s: Read(%.200x (%d bytes)) = %.200v, %d, want %.200v, %d", promise, b, len(b), got, e, want, err)
	}
}

func wantNone(t *testing.T, promise, b string) {
	t.Helper()
	wantRead(t, promise, b, nil, api.ErrForm)
}

// wantList asks all calls of one list.
func wantList(t *testing.T, l []tuple.Part, b string) {
	t.Helper()
	wantWrite(t, "P5.1", l, b, api.OK)
	wantLimits(t, "P5.1", l, b, b+"\xff", api.OK)
	wantRead(t, "P5.3", b, l, api.OK)
}

func TestExamples(t *testing.T) {
	for _, x := range []struct {
		l    []tuple.Part
		text string
	}{
		{nil, ""},
		{list(), ""},
		{list(text("a")), "01 61 00000000000000 01"},
		{list(text("")), "01 0000000000000000 00"},
		{list(text("abcdefgh")), "01 6162636465666768 08"},
		{list(text("abcdefghi")), "01 6162636465666768 09 69 00000000000000 01"},
		{list(text("abcdefghijklmnop")), "01 6162636465666768 09 696a6b6c6d6e6f70 08"},
		{list(text("abcdefghijklmnopq")), "01 6162636465666768 09 696a6b6c6d6e6f70 09 71 00000000000000 01"},
		{list(text("a\x00")), "01 61 00 000000000000 02"},
		{list(text("\x00")), "01 0000000000000000 01"},
		{list(text("\x00\x00\x00\x00\x00\x00\x00\x00")), "01 0000000000000000 08"},
		{list(text("\x00\x00\x00\x00\x00\x00\x00\x00\x00")), "01 0000000000000000 09 0000000000000000 01"},
		{list(text("\xff\xff\xff\xff\xff\xff\xff\xff")), "01 ffffffffffffffff 08"},
		{list(text("ä€")), "01 c3a4e282ac 000000 05"},
		{list(rise(0)), "02 8000000000000000"},
		{list(rise(1)), "02 8000000000000001"},
		{list(rise(-1)), "02 7fffffffffffffff"},
		{list(rise(math.MaxInt64)), "02 ffffffffffffffff"},
		{list(rise(math.MinInt64)), "02 0000000000000000"},
		{list(rise(0x0123456789abcdef)), "02 8123456789abcdef"},
		{list(fall(0)), "03 7fffffffffffffff"},
		{list(fall(1)), "03 7ffffffffffffffe"},
		{list(fall(-1)), "03 8000000000000000"},
		{list(fall(math.MaxInt64)), "03 0000000000000000"},
		{list(fall(math.MinInt64)), "03 ffffffffffffffff"},
		{list(fall(0x0123456789abcdef)), "03 7edcba9876543210"},
		{list(text("a"), rise(5), fall(5)), "01 61 00000000000000 01 02 8000000000000005 03 7ffffffffffffffa"},
		{list(fall(0), text(""), text("")), "03 7fffffffffffffff 01 0000000000000000 00 01 0000000000000000 00"},
	} {
		wantList(t, x.l, digits(x.text))
	}
	if tuple.Text != 1 || tuple.Rise != 2 || tuple.Fall != 3 {
		t.Error("P5.1: the kinds have other numbers")
	}
}

// TestLengths: texts of each length about the ends of groups.
func TestLengths(t *testing.T) {
	x := &texter{1}
	for n := range 300 {
		for _, s := range []string{strings.Repeat("\x00", n), strings.Repeat("a", n), strings.Repeat("\xff", n), strings.Repeat("\x09", n), x.text(n)} {
			for _, l := range [][]tuple.Part{list(text(s)), list(text(s), text(s)), list(rise(1), text(s), fall(2))} {
				wantList(t, l, textOf(l))
			}
			b, _ := tuple.Write(list(text(s)))
			if want := 1 + 9*max(1, (n+7)/8); len(b) != want {
				t.Errorf("P5.1: a text of %d bytes takes %d, want %d", n, len(b), want)
			}
		}
	}
	if b, _ := tuple.Write(list(text(strings.Repeat("k", 64)))); len(b) != 73 {
		t.Errorf("P5.1: 64 bytes take %d", len(b))
	}
}

// TestEveryByte: all bytes, at each place of a group.
func TestEveryByte(t *testing.T) {
	for c := range 256 {
		one := string([]byte{byte(c)})
		for n := range 18 {
			s := strings.Repeat("k", n) + one
			for _, l := range [][]tuple.Part{list(text(s)), list(text(s + "k")), list(text(s + "\x00"))} {
				wantList(t, l, textOf(l))
			}
		}
		for shift := range 8 {
			n := int64(uint64(c) << (8 * shift))
			for _, l := range [][]tuple.Part{list(rise(n)), list(fall(n)), list(rise(^n)), list(fall(-n))} {
				wantList(t, l, textOf(l))
			}
		}
	}
}

// TestGreat: long texts and long lists are no more than long.
func TestGreat(t *testing.T) {
	great := strings.Repeat("abcdefgh", 1<<17)
	l := list(text(great))
	b := "\x01" + strings.Repeat("abcdefgh\x09", 1<<17-1) + "abcdefgh\x08"
	wantList(t, l, b)
	wantNone(t, "P5.1", b[:len(b)-1]+"\x09")
	wantNone(t, "P5.1", b[:len(b)-1])
	if tuple.Compare(l, list(text(great+"\x00"))) != -1 || tuple.Compare(list(text(great)), l) != 0 {
		t.Error("P5.1: Compare of great texts")
	}
	var many []tuple.Part
	for i := range 100000 {
		many = append(many, fall(int64(i)))
	}
	b, err := tuple.Write(many)
	if len(b) != 900000 || err != api.OK {
		t.Fatalf("P5.1: Write of many: %d bytes, %d", len(b), err)
	}
	wantRead(t, "P5.3", b, many, api.OK)
	wantNone(t, "P5.1", b+"\x00")
	if tuple.Compare(many, many) != 0 || tuple.Compare(many, append(slices.Clone(many), text(""))) != -1 {
		t.Error("P5.1: Compare of many")
	}
}

// noParts are parts that are none, each for one reason.
func noParts() []tuple.Part {
	l := list(tuple.Part{}, text("x"), text(""), rise(1), fall(1))
	l[1].N, l[2].N, l[3].Text, l[4].Text = 1, math.MinInt64, "x", "\x00"
	// Kinds whose lowest byte is a right one's are wrong ones too.
	for _, kind := range []int{0, -1, 4, 5, 9, 255, 256, 257, 258, 259, -253, -254, -255, 1 << 32, 1<<32 + 1, 1<<32 + 2, math.MinInt, math.MinInt + 1, math.MaxInt} {
		l = append(l, tuple.Part{Kind: kind}, tuple.Part{Kind: kind, Text: "x"}, tuple.Part{Kind: kind, N: 1}, tuple.Part{Kind: kind, Text: "x", N: -1})
	}
	for _, kind := range []int{2, 3} {
		l = append(l, tuple.Part{Kind: kind, Text: "x"}, tuple.Part{Kind: kind, Text: strings.Repeat("k", 70), N: 7})
	}
	return append(l, tuple.Part{Kind: 1, N: -1}, tuple.Part{Kind: 1, N: math.MaxInt64}, tuple.Part{Kind: 1, Text: "abcdefgh", N: 1 << 40})
}

func TestNoPart(t *testing.T) {
	right := list(text("a"), rise(-1), fall(1), text(""), text("abcdefghi"))
	for _, p := range noParts() {
		for n := range len(right) + 1 {
			l := slices.Insert(slices.Clone(right), n, p)
			wantWrite(t, "P5.1", l, "", api.ErrArg)
			wantLimits(t, "P5.1", l, "", "", api.ErrArg)
			wantWrite(t, "P5.1", l[n:n+1], "", api.ErrArg)
			wantLimits(t, "P5.1", l[:n+1], "", "", api.ErrArg)
			wantWrite(t, "P5.1", l[:n], textOf(l[:n]), api.OK)
		}
	}
}

// TestCompareAnything: Compare looks at all fields, in their order, also of
// what is no part.
func TestCompareAnything(t *testing.T) {
	parts := noParts()
	for _, kind := range []int{math.MinInt, -1, 0, 1, 2, 3, 4, math.MaxInt} {
		for _, s := range []string{"", "\x00", "a", "a\x00", "b", "\xff"} {
			for _, n := range []int64{math.MinInt64, -1, 0, 1, math.MaxInt64} {
				parts = append(parts, tuple.Part{Kind: kind, Text: s, N: n})
			}
		}
	}
	for _, p := range parts {
		for _, q := range parts {
			for _, x := range [][2][]tuple.Part{
				{list(p), list(q)},
				{list(rise(1), p), list(rise(1), q)},
				{list(p, text("a")), list(q, text("b"))},
				{list(p, q), list(q)},
				{list(p), list(p, q)},
			} {
				if got, want := tuple.Compare(x[0], x[1]), orderOf(x[0], x[1]); got != want {
					t.Fatalf("P5.1: Compare(%v, %v) = %d, want %d", x[0], x[1], got, want)
				}
			}
		}
	}
	for _, x := range []struct {
		a, b tuple.Part
		want int
	}{
		{tuple.Part{Kind: 9, N: 1}, tuple.Part{Kind: 9, N: 2}, -1},
		{tuple.Part{Kind: 1, N: 1}, tuple.Part{Kind: 1, N: 2}, -1},
		{tuple.Part{Kind: -1}, text(""), -1},
		{tuple.Part{Kind: 3, Text: "a", N: 1}, tuple.Part{Kind: 3, Text: "b", N: 2}, -1},
		{tuple.Part{Kind: 3, Text: "a", N: 1}, tuple.Part{Kind: 3, Text: "a", N: 2}, 1},
		{tuple.Part{Kind: 2, Text: "b", N: 1}, tuple.Part{Kind: 2, Text: "a", N: 2}, 1},
	} {
		if got := tuple.Compare(list(x.a), list(x.b)); got != x.want {
			t.Errorf("P5.1: Compare(%v, %v) = %d, want %d", x.a, x.b, got, x.want)
		}
	}
}

// rising are lists in their order, by hand from the chapter.
func rising() [][]tuple.Part {
	long := strings.Repeat("a", 64)
	return [][]tuple.Part{
		nil,
		list(text("")), list(text(""), text("")), list(text(""), text(""), text("")), list(text(""), text("a")), list(text(""), rise(math.MinInt64)), list(text(""), fall(math.MinInt64)),
		list(text("\x00")), list(text("\x00"), fall(math.MinInt64)), list(text("\x00\x00")), list(text(strings.Repeat("\x00", 7))), list(text(strings.Repeat("\x00", 8))), list(text(strings.Repeat("\x00", 8)), text("")), list(text(strings.Repeat("\x00", 9))), list(text(strings.Repeat("\x00", 16))), list(text(strings.Repeat("\x00", 17))),
		list(text("\x01")), list(text("\x09")), list(text("\x09\x09")),
		list(text("a")), list(text("a"), text("")), list(text("a"), text("z")), list(text("a"), rise(4)), list(text("a"), rise(5)), list(text("a"), rise(5), text("")), list(text("a"), fall(5)), list(text("a"), fall(4)), list(text("a\x00")), list(text("a\x01")),
		list(text("aaaaaaa")), list(text("aaaaaaa"), fall(0)), list(text("aaaaaaa\x00")), list(text("aaaaaaaa")), list(text("aaaaaaaa"), text("\xff")), list(text("aaaaaaaa"), fall(0)), list(text("aaaaaaaa\x00")), list(text("aaaaaaaaa")), list(text(long[:16])), list(text(long[:16] + "\x00")), list(text(long[:63])), list(text(long)), list(text(long), rise(0)), list(text(long + "\x00")), list(text(long + "b")), list(text(long[:63] + "b")), list(text("aaaaaaaab")), list(text("aaaaaaab")), list(text("ab")),
		list(text("b")), list(text("\x7f")), list(text("\x80")), list(text("\xff")), list(text(strings.Repeat("\xff", 8))), list(text(strings.Repeat("\xff", 9))),
		list(rise(math.MinInt64)), list(rise(math.MinInt64), rise(0)), list(rise(math.MinInt64 + 1)), list(rise(-256)), list(rise(-255)), list(rise(-9)), list(rise(-1)), list(rise(-1), fall(math.MinInt64)), list(rise(0)), list(rise(0), text("")), list(rise(0), rise(0)), list(rise(1)), list(rise(255)), list(rise(256)), list(rise(1 << 32)), list(rise(math.MaxInt64 - 1)), list(rise(math.MaxInt64)), list(rise(math.MaxInt64), fall(math.MinInt64)),
		list(fall(math.MaxInt64)), list(fall(math.MaxInt64), text("")), list(fall(math.MaxInt64 - 1)), list(fall(256)), list(fall(255)), list(fall(5)), list(fall(5), rise(0)), list(fall(5), fall(6)), list(fall(5), fall(5)), list(fall(4)), list(fall(1)), list(fall(0)), list(fall(-1)), list(fall(-256)), list(fall(-257)), list(fall(math.MinInt64 + 1)), list(fall(math.MinInt64)), list(fall(math.MinInt64), fall(math.MinInt64)),
	}
}

// wantOrder asks Compare and the texts of two lists, and whether one stands
// between the other's limits.
func wantOrder(t *testing.T, a, b []tuple.Part, want int) {
	t.Helper()
	x, _ := tuple.Write(a)
	y, _ := tuple.Write(b)
	if got := tuple.Compare(a, b); got != want {
		t.Errorf("P5.2: Compare(%v, %v) = %d, want %d", a, b, got, want)
	}
	if got := strings.Compare(x, y); got != want {
		t.Errorf("P5.2: the texts of %v and %v compare as %d, want %d", a, b, got, want)
	}
	begins := beginsWith(a, b)
	if strings.HasPrefix(x, y) != begins {
		t.Errorf("P5.4: the text of %v begins with that of %v: %v", a, b, !begins)
	}
	from, to, err := tuple.Limits(b)
	if (from <= x && x < to) != begins || err != api.OK {
		t.Errorf("P5.4: the text of %v stands between the limits of %v: %v, %d", a, b, !begins, err)
	}
}

func TestOrderByHand(t *testing.T) {
	l := rising()
	for i, a := range l {
		for k, b := range l {
			wantOrder(t, a, b, orderOf(list(rise(int64(i))), list(rise(int64(k)))))
		}
	}
}

// TestOrderOfMany: lists that begin alike, and parts that do.
func TestOrderOfMany(t *testing.T) {
	x := &texter{2}
	for range 60 {
		base := x.list(4, 20)
		lists := [][]tuple.Part{base}
		for range 40 {
			l := slices.Clone(base[:x.below(len(base)+1)])
			if len(l) > 0 && x.below(2) == 0 {
				l[len(l)-1] = near(x, l[len(l)-1])
			}
			lists = append(lists, append(l, x.list(2, 9)...))
		}
		for _, a := range lists {
			for _, b := range lists {
				wantOrder(t, a, b, orderOf(a, b))
			}
		}
	}
}

// near is a part like another one.
func near(x *texter, p tuple.Part) tuple.Part {
	if p.Kind != 1 {
		return tuple.Part{Kind: 2 + x.below(2), N: p.N ^ 1<<x.below(64)}
	}
	return text(p.Text[:x.below(len(p.Text)+1)] + x.text(x.below(9)))
}

// TestSorted: lists sorted by Compare have sorted texts.
func TestSorted(t *testing.T) {
	x := &texter{3}
	var lists [][]tuple.Part
	for range 5000 {
		lists = append(lists, x.list(3, 3))
	}
	slices.SortFunc(lists, tuple.Compare)
	last := ""
	for i, l := range lists {
		b, err := tuple.Write(l)
		if b < last || err != api.OK {
			t.Fatalf("P5.2: %v stands behind one with a greater text (%d)", l, err)
		}
		if i > 0 && (b == last) != slices.Equal(l, lists[i-1]) {
			t.Fatalf("P5.2: %v and %v have one text, or are one and have two", l, lists[i-1])
		}
		last = b
	}
}

func TestThereAndBack(t *testing.T) {
	x := &texter{4}
	for range 5000 {
		l := x.list(6, 40)
		wantList(t, l, textOf(l))
	}
}

func TestReadNone(t *testing.T) {
	for _, s := range []string{
		"01 6162 000000000000 01", "01 6162636465666768 09 0000000000000000 00", "01 61 00000000000000 0a", "01 61", "04", "02 80",
		"00", "ff", "01", "02", "03", "05", "61", "81", "82", "83", "0a", "10", "20", "30",
		"01 61 00000000000000", "01 6162636465666768", "01 6162636465666768 09", "01 6162636465666768 09 00", "01 6162636465666768 09 69 00000000000000",
		"01 6162636465666768 00", "01 6162636465666768 07", "01 6162636465666768 0a", "01 6162636465666768 ff", "01 6162636465666768 88",
		"01 0100000000000000 00", "01 0000000000000001 00", "01 0000000000000001 07", "01 00000000000000 01 01", "01 0000000000000000 09",
		"01 0000000000000000 09 0000000000000000 00", "01 0000000000000000 09 0000000000000000 09 0000000000000000 00", "01 6162636465666768 09 6162636465666768 09 0000000000000000 00",
		"01 6162636465666768 08 02", "01 6162636465666768 08 00", "01 6162636465666768 08 08", "01 61 00000000000000 01 01",
		"02 80000000000000", "03 80000000000000", "02 8000000000000000 00", "02 8000000000000000 05", "03 8000000000000000 03", "03 8000000000000000 ff",
		"00 8000000000000000", "04 8000000000000000", "ff ffffffffffffffff", "00 0000000000000000 00", "04 61 00000000000000 01", "fe 7fffffffffffffff",
	} {
		wantNone(t, "P5.1", digits(s))
		wantNone(t, "P5.1", digits("02 8000000000000000"+s))
		wantNone(t, "P5.1", digits("01 61 00000000000000 01"+s))
	}
	wantRead(t, "P5.1", "", nil, api.OK)
	wantRead(t, "P5.1", digits("01 61 00000000000000 02"), list(text("a\x00")), api.OK)
	for a := range 256 {
		wantNone(t, "P5.1", string([]byte{byte(a)}))
		for b := range 256 {
			wantNone(t, "P5.1", string([]byte{byte(a), byte(b)}))
		}
	}
}

// TestFirstByte: just three bytes begin a part.
func TestFirstByte(t *testing.T) {
	for c := range 256 {
		first := string([]byte{byte(c)})
		if c < 1 || c > 3 {
			for n := range 30 {
				wantNone(t, "P5.1", first+strings.Repeat("\x00", n))
				wantNone(t, "P5.1", first+strings.Repeat("\x08", n))
				wantNone(t, "P5.1", first+strings.Repeat("\xff", n))
			}
		}
	}
}

// TestGroups: all ninth bytes behind all shapes of a group, alone and behind
// one group more.
func TestGroups(t *testing.T) {
	for _, ahead := range []string{"", "abcdefgh", "\x00\x00\x00\x00\x00\x00\x00\x00"} {
		head := "\x01"
		if ahead != "" {
			head += ahead + "\x09"
		}
		for shape := range 256 {
			group := make([]byte, 8)
			last := 0
			for i := range group {
				if shape>>i&1 == 1 {
					group[i], last = byte(i+1), i+1
				}
			}
			for ninth := range 256 {
				b := head + string(group) + string([]byte{byte(ninth)})
				if ninth > 8 || ninth < last || ninth == 0 && ahead != "" {
					wantNone(t, "P5.1", b)
					continue
				}
				wantRead(t, "P5.1", b, list(text(ahead+string(group[:ninth]))), api.OK)
			}
		}
	}
}

// wantOneForm asks that a text is read just as the test's own reckoning reads
// it, and that what was read is told as it was; it tells whether it was read.
func wantOneForm(t *testing.T, b string) bool {
	t.Helper()
	want, is := listOf(b)
	if !is {
		wantNone(t, "P5.1", b)
		return false
	}
	wantRead(t, "P5.1", b, want, api.OK)
	l, _ := tuple.Read(b)
	wantWrite(t, "P5.3", l, b, api.OK)
	return true
}

// TestOneForm reads texts of which a byte is another, is left out or is put in,
// and which are cut at each place.
func TestOneForm(t *testing.T) {
	x := &texter{5}
	const marks = "\x00\x01\x02\x03\x04\x07\x08\x09\x0a\x80\xffa"
	read, refused := 0, 0
	ask := func(b string) {
		if wantOneForm(t, b) {
			read++
		} else {
			refused++
		}
	}
	for range 150 {
		b := textOf(append(x.list(3, 20), x.part(20)))
		for i := range len(b) {
			for _, c := range []byte(marks) {
				ask(b[:i] + string([]byte{c}) + b[i+1:])
				ask(b[:i] + string([]byte{c}) + b[i:])
			}
			ask(b[:i] + b[i+1:])
			ask(b[:i])
			ask(b[i:])
		}
	}
	if read < 1000 || refused < 1000 {
		t.Errorf("P5.3: the test's own texts: %d were read, %d refused", read, refused)
	}
}

func TestAnyBytes(t *testing.T) {
	x := &texter{6}
	read := 0
	for range 100000 {
		b := "\x01" + x.text(8) + string([]byte{byte(x.below(11))})
		if x.below(2) == 0 {
			b += x.text(x.below(20))
		}
		if wantOneForm(t, b) {
			read++
		}
		wantOneForm(t, x.text(x.below(30)))
	}
	if read < 1000 {
		t.Errorf("P5.3: the test's own texts: %d were read", read)
	}
}

// span is where the bytes of a text lie.
func span(text string) (uintptr, uintptr) {
	from := uintptr(unsafe.Pointer(unsafe.StringData(text)))
	return from, from + uintptr(len(text))
}

func apart(a, b string) bool {
	from, to := span(a)
	first, last := span(b)
	return to <= first || last <= from
}

// TestNewMemory: what is answered holds no piece of what was handed in, nor of
// the other answers.
func TestNewMemory(t *testing.T) {
	for _, size := range []int{2, 7, 8, 9, 16, 64, 5000} {
		own := strings.Repeat("k", size)
		b, err := tuple.Write(list(text(own), text(own)))
		if err != api.OK || !apart(b, own) {
			t.Errorf("P5.1: Write of %d bytes: %d, or it holds its argument", size, err)
		}
		from, to, err := tuple.Limits(list(text(own)))
		if err != api.OK || !apart(from, own) || !apart(to, own) || !apart(from, to) {
			t.Errorf("P5.1: Limits of %d bytes: %d, or an answer holds its argument or the other one", size, err)
		}
		l, err := tuple.Read(b)
		if err != api.OK || len(l) != 2 || !apart(l[0].Text, b) || !apart(l[1].Text, b) || !apart(l[0].Text, l[1].Text) {
			t.Errorf("P5.1: Read of %d bytes: %d, or a part holds a piece of the text or of the other part", size, err)
		}
	}
	first, _ := tuple.Read(textOf(list(rise(1), rise(2))))
	second, _ := tuple.Read(textOf(list(rise(1), rise(2))))
	first[0] = rise(9)
	if second[0] != rise(1) {
		t.Error("P5.1: two answers of Read share memory")
	}
}

// TestArgumentsStay: neither a list nor its spare room is changed.
func TestArgumentsStay(t *testing.T) {
	x := &texter{7}
	for range 200 {
		all := append(x.list(5, 20), rise(1), tuple.Part{Kind: 9, Text: "spare", N: 9}, text("spare"))
		if x.below(4) == 0 {
			all[0] = tuple.Part{}
		}
		was := slices.Clone(all)
		l := all[:len(all)-2]
		tuple.Write(l)
		tuple.Limits(l)
		tuple.Compare(l, all[:1])
		tuple.Compare(all[:1], l)
		if !slices.Equal(all, was) {
			t.Fatalf("P5.1: a list or its spare room was changed: %v, was %v", all, was)
		}
	}
}

// TestArgumentsAlone: what was asked before, or is asked beside, changes nothing.
func TestArgumentsAlone(t *testing.T) {
	var all sync.WaitGroup
	shared := (&texter{8}).list(9, 30)
	for worker := range 8 {
		all.Go(func() {
			x := &texter{uint64(worker)}
			for range 500 {
				l := x.list(4, 30)
				b := textOf(l)
				wantList(t, l, b)
				wantNone(t, "P5.1", b+"\x00")
				wantWrite(t, "P5.1", append(slices.Clone(l), tuple.Part{}), "", api.ErrArg)
				wantList(t, l, b)
				wantList(t, shared, textOf(shared))
				if tuple.Compare(l, shared) != orderOf(l, shared) {
					t.Errorf("P5.1: Compare(%v, %v)", l, shared)
				}
			}
		})
	}
	all.Wait()
}
