package names_test

import (
	"fmt"
	"math"
	"slices"
	"strings"
	"sync"
	"testing"

	"coffer/api"
	"coffer/names"
)

// small are the bytes of small names, in their order.
const small = "-0123456789abcdefghijklmnopqrstuvwxyz"

// texter tells numbers and texts that look like chance and are the same each time.
type texter struct{ x uint64 }

func (t *texter) number() uint64 {
	t.x += 0x9e3779b97f4a7c15
	z := t.x
	z = (z ^ z>>30) * 0xbf58476d1ce4e5b9
	z = (z ^ z>>27) * 0x94d049bb133111eb
	return z ^ z>>31
}

func (t *texter) below(n int) int { return int(t.number() % uint64(n)) }

// text has n bytes of all kinds.
func (t *texter) text(n int) string {
	b := make([]byte, n)
	for i := range b {
		b[i] = byte(t.number())
	}
	return string(b)
}

// name has n bytes of small names.
func (t *texter) name(n int) string {
	b := make([]byte, n)
	for i := range b {
		b[i] = small[t.below(len(small))]
	}
	return string(b)
}

// right is metadata of so many pairs that is right.
func (t *texter) right(n int) []api.Pair {
	byName := map[string]string{}
	for len(byName) < n {
		byName[t.name(1+t.below(16))] = t.text(t.below(65))
	}
	var l []api.Pair
	for name, value := range byName {
		l = append(l, api.Pair{Name: name, Value: value})
	}
	slices.SortFunc(l, func(a, b api.Pair) int { return orderOf(a.Name, b.Name) })
	return l
}

// meta is metadata, as often right as wrong in one thing or two.
func (t *texter) meta() []api.Pair {
	l := t.right(t.below(9))
	for range t.below(3) {
		if len(l) == 0 {
			break
		}
		i, k := t.below(len(l)), t.below(len(l))
		switch t.below(7) {
		case 0:
			l[i], l[k] = l[k], l[i]
		case 1:
			l[i].Name = l[k].Name
		case 2:
			l[i].Name = t.text(t.below(18))
		case 3:
			l[i].Name = l[k].Name + t.name(t.below(17))
		case 4:
			l[i].Value = t.text(60 + t.below(10))
		case 5:
			l = slices.Insert(l, i, t.right(1)...)
		case 6:
			l = slices.Delete(l, i, i+1)
		}
	}
	return l
}

// version is one of any kind, near to the limits as often as not.
func (t *texter) version() api.Version {
	v := api.Version{Key: t.text(1 + t.below(33)), Seq: int64(t.number()), Marker: t.below(3) == 0}
	if t.below(3) > 0 {
		v.Data = t.text(t.below(1030))
	}
	if t.below(3) > 0 {
		v.Meta = t.meta()
	}
	if t.below(9) == 0 {
		v.Key = ""
	}
	return v
}

// times is a text of n times a letter.
func times(n int, letter string) string { return strings.Repeat(letter, n) }

// one is the text of one byte.
func one(c int) string { return string([]byte{byte(c)}) }

// pairs are made of names and values in turn.
func pairs(s ...string) []api.Pair {
	var l []api.Pair
	for i := 0; i < len(s); i += 2 {
		l = append(l, api.Pair{Name: s[i], Value: s[i+1]})
	}
	return l
}

// eight are pairs that are right, as many and as great as may be.
func eight() []api.Pair {
	var l []api.Pair
	for i := range 8 {
		l = append(l, api.Pair{Name: "n" + times(14, "-") + one('0'+i), Value: times(64, one(i))})
	}
	return l
}

// orderOf is the order of texts byte by byte, one that begins another ahead of it.
func orderOf(a, b string) int {
	for i := range min(len(a), len(b)) {
		if a[i] != b[i] {
			return int(a[i]) - int(b[i])
		}
	}
	return len(a) - len(b)
}

// isSmall: is a text a small name of 1 to most bytes?
func isSmall(s string, most int) bool {
	return 1 <= len(s) && len(s) <= most && strings.Trim(s, small) == "" && !strings.ContainsFunc(s, func(c rune) bool {
		return !strings.ContainsRune(small, c)
	})
}

// metaOf is the chapter's error of metadata, reason by reason.
func metaOf(l []api.Pair) api.Errno {
	if len(l) > 8 {
		return 62
	}
	for i, p := range l {
		if !isSmall(p.Name, 16) || len(p.Value) > 64 {
			return 62
		}
		if i > 0 && orderOf(l[i-1].Name, p.Name) >= 0 {
			return 62
		}
	}
	return 0
}

// versionOf is the chapter's error of a version, reason by reason.
func versionOf(v api.Version) api.Errno {
	if len(v.Key) == 0 || len(v.Key) > 32 {
		return 61
	}
	if len(v.Data) > 1024 || v.Marker && len(v.Data) > 0 {
		return 63
	}
	if v.Marker && len(v.Meta) > 0 {
		return 62
	}
	return metaOf(v.Meta)
}

// sizeOf is the chapter's size: 32, and all texts laid behind one another.
func sizeOf(v api.Version) int {
	all := []string{times(32, "."), v.Key, v.Data}
	for _, p := range v.Meta {
		all = append(all, p.Name, p.Value)
	}
	return len(strings.Join(all, ""))
}

// short is a version as an error tells it.
func short(v api.Version) string {
	return fmt.Sprintf("Key %.40q Seq %d Marker %v, %d bytes, %d pairs %.300q", v.Key, v.Seq, v.Marker, len(v.Data), len(v.Meta), v.Meta)
}

func wantBucket(t *testing.T, what, s string, want api.Errno) {
	t.Helper()
	if got := names.Bucket(s); got != want {
		t.Errorf("P12.1: %s: Bucket(%.80q (%d bytes)) = %d, want %d", what, s, len(s), got, want)
	}
}

func wantKey(t *testing.T, what, s string, want api.Errno) {
	t.Helper()
	if got := names.Key(s); got != want {
		t.Errorf("P12.1: %s: Key(%.80q (%d bytes)) = %d, want %d", what, s, len(s), got, want)
	}
}

func wantData(t *testing.T, what, s string, want api.Errno) {
	t.Helper()
	if got := names.Data(s); got != want {
		t.Errorf("P12.1: %s: Data(%.80q (%d bytes)) = %d, want %d", what, s, len(s), got, want)
	}
}

func wantMeta(t *testing.T, what string, l []api.Pair, want api.Errno) {
	t.Helper()
	if got := names.Meta(l); got != want {
		t.Errorf("P12.1: %s: Meta(%.300q (%d pairs)) = %d, want %d", what, l, len(l), got, want)
	}
}

func wantVersion(t *testing.T, what string, v api.Version, want api.Errno) {
	t.Helper()
	if got := names.Version(v); got != want {
		t.Errorf("P12.1: %s: Version(%s) = %d, want %d", what, short(v), got, want)
	}
}

func wantSize(t *testing.T, what string, v api.Version, want int) {
	t.Helper()
	if got := names.Size(v); got != want {
		t.Errorf("P12.4: %s: Size(%s) = %d, want %d", what, short(v), got, want)
	}
}

// errorIf is an error where something isn't right.
func errorIf(wrong bool, err api.Errno) api.Errno {
	if wrong {
		return err
	}
	return api.OK
}

func TestExamples(t *testing.T) {
	for _, s := range []string{"a", "-9z", times(32, "a")} {
		wantBucket(t, "example 1", s, api.OK)
	}
	for _, s := range []string{"", times(33, "a"), "A", "a b", "a.b", "é"} {
		wantBucket(t, "example 1", s, api.ErrName)
	}

	wantKey(t, "example 2", "\x00", api.OK)
	wantKey(t, "example 2", times(32, "k"), api.OK)
	wantKey(t, "example 2", times(33, "k"), api.ErrKey)
	wantKey(t, "example 2", "", api.ErrKey)
	wantData(t, "example 2", times(1024, "d"), api.OK)
	wantData(t, "example 2", times(1025, "d"), api.ErrData)

	for _, l := range [][]api.Pair{nil, {}, pairs("a", "x", "b", ""), pairs("a", "x", "ab", "x")} {
		wantMeta(t, "example 3", l, api.OK)
	}
	for _, l := range [][]api.Pair{
		pairs("b", "x", "a", "y"), pairs("a", "x", "a", "y"), pairs("", "x"), pairs("A", "x"), pairs("a", times(65, "v")),
		pairs("a", "", "b", "", "c", "", "d", "", "e", "", "f", "", "g", "", "h", "", "i", ""),
	} {
		wantMeta(t, "example 3", l, api.ErrMeta)
	}

	wantVersion(t, "example 4", api.Version{Key: "k", Marker: true, Data: "d"}, api.ErrData)
	wantVersion(t, "example 4", api.Version{Data: times(1025, "d")}, api.ErrKey)
	wantVersion(t, "example 4", api.Version{Key: "k", Marker: true, Meta: pairs("a", "x")}, api.ErrMeta)
	wantVersion(t, "example 4", api.Version{Key: "k", Marker: true, Seq: -5}, api.OK)

	wantSize(t, "example 5", api.Version{}, 32)
	wantSize(t, "example 5", api.Version{Key: "ab", Data: "c", Meta: pairs("n", "vv")}, 38)
}

// TestBucketBytes: every byte alone, and at each place of names of each length.
func TestBucketBytes(t *testing.T) {
	for c := range 256 {
		want := errorIf(strings.IndexByte(small, byte(c)) < 0, api.ErrName)
		wantBucket(t, "one byte", one(c), want)
		for n := range 32 {
			for at := range n + 1 {
				wantBucket(t, "within a name", times(at, "a")+one(c)+times(n-at, "z"), want)
			}
		}
		wantBucket(t, "a byte 32 times", times(32, one(c)), want)
		wantBucket(t, "a byte 33 times", times(33, one(c)), api.ErrName)
	}
}

// TestBucketLengths: texts of small names' bytes alone, of each length.
func TestBucketLengths(t *testing.T) {
	x := &texter{1}
	for n := range 300 {
		want := errorIf(n < 1 || n > 32, api.ErrName)
		for _, s := range []string{times(n, "a"), times(n, "-"), times(n, "9"), x.name(n), x.name(n)} {
			wantBucket(t, "lengths", s, want)
		}
	}
	for _, n := range []int{256, 257, 288, 1 << 16, 1<<16 + 1, 1<<16 + 32, 1 << 24} {
		wantBucket(t, "a great length", times(n, "a"), api.ErrName)
	}
}

// TestBucketCharacters: no character of more than one byte stands in a name,
// also where its number ends with a small byte's.
func TestBucketCharacters(t *testing.T) {
	for c := rune(128); c <= 0x10ffff; c++ {
		s := string(c)
		if names.Bucket(s) != api.ErrName || names.Bucket("a"+s) != api.ErrName || names.Bucket(s+"-") != api.ErrName {
			t.Fatalf("P12.1: Bucket takes the character %x", c)
		}
	}
	for _, s := range []string{
		"\u0161", "\u012d", "\u0130", "\uff41", "\u212a", "\u0131", "\u2010", "\u2212", "\u0660", "\ufeff", "\ufffd", "\u00ad", "\u200b",
		"\xc1\xa1", "\xe0\x81\xa1", "\xf0\x80\x81\xa1", "\xed\xa0\x80", "\xf4\x90\x80\x80", "\xc3", "\xa9", "\xe2\x82", "\xff", "\xfe", "\x80", "\xc0\x80",
	} {
		for _, ahead := range []string{"", "a", "abcdefgh", times(28, "z")} {
			wantBucket(t, "ends with it", ahead+s, api.ErrName)
			wantBucket(t, "has it within", ahead+s+"b", api.ErrName)
		}
	}
}

// TestByteByByte: a text is right just if each of its bytes is, alone.
func TestByteByByte(t *testing.T) {
	var right [256]bool
	for c := range right {
		right[c] = names.Bucket(one(c)) == api.OK
	}
	ask := func(s string) {
		t.Helper()
		all := true
		for i := range len(s) {
			all = all && right[s[i]]
		}
		if got := names.Bucket(s); got != errorIf(!all, api.ErrName) {
			t.Errorf("P12.2: Bucket(%q) = %d; all its bytes are right: %v", s, got, all)
		}
	}
	for a := range 256 {
		for b := range 256 {
			ask(one(a) + one(b))
			ask(one(a) + "c3" + one(b))
		}
	}
	x := &texter{2}
	for range 20000 {
		s := []byte(x.name(1 + x.below(32)))
		for range x.below(3) {
			s[x.below(len(s))] = byte(x.number())
		}
		ask(string(s))
		ask(x.text(1 + x.below(32)))
	}
}

// TestKeys: each length, of each byte and of any.
func TestKeys(t *testing.T) {
	x := &texter{3}
	for n := range 100 {
		want := errorIf(n < 1 || n > 32, api.ErrKey)
		for c := range 256 {
			wantKey(t, "lengths", times(n, one(c)), want)
		}
		for range 20 {
			wantKey(t, "lengths", x.text(n), want)
		}
	}
	for _, n := range []int{256, 257, 288, 1<<16 + 1, 1 << 24} {
		wantKey(t, "a great length", times(n, "k"), api.ErrKey)
	}
	wantKey(t, "16 characters of two bytes", times(16, "é"), api.OK)
	wantKey(t, "32 characters of two bytes", times(32, "é"), api.ErrKey)
}

// TestData: each length, of each byte at the edges.
func TestData(t *testing.T) {
	x := &texter{4}
	for n := range 1200 {
		want := errorIf(n > 1024, api.ErrData)
		wantData(t, "lengths", times(n, "\x00"), want)
		wantData(t, "lengths", x.text(n), want)
	}
	for c := range 256 {
		for n, want := range map[int]api.Errno{0: api.OK, 1: api.OK, 1024: api.OK, 1025: api.ErrData} {
			wantData(t, "each byte", times(n, one(c)), want)
		}
	}
	for _, n := range []int{2048, 1 << 16, 1<<16 + 1, 1 << 24} {
		wantData(t, "a great length", times(n, "d"), api.ErrData)
	}
	wantData(t, "1024 characters of two bytes", times(1024, "é"), api.ErrData)
}

// TestMetaCount: none, eight, nine and more.
func TestMetaCount(t *testing.T) {
	wantMeta(t, "none", nil, api.OK)
	wantMeta(t, "none", []api.Pair{}, api.OK)
	wantMeta(t, "none, with room for some", make([]api.Pair, 0, 20), api.OK)
	var l []api.Pair
	for n := range len(small) {
		wantMeta(t, "counts", l, errorIf(n > 8, api.ErrMeta))
		l = append(l, api.Pair{Name: small[n : n+1], Value: "v"})
	}
	wantMeta(t, "eight of the greatest", eight(), api.OK)
	for at := range 9 {
		nine := slices.Insert(pairs("b", "", "d", "", "f", "", "h", "", "j", "", "l", "", "n", "", "p", ""), at, pairs(one('a'+2*at), "")...)
		wantMeta(t, "nine", nine, api.ErrMeta)
		wantMeta(t, "nine, and then eight", slices.Delete(nine, 8-at, 9-at), api.OK)
	}
	wantMeta(t, "many of none", make([]api.Pair, 1<<20), api.ErrMeta)
	wantMeta(t, "256", make([]api.Pair, 256), api.ErrMeta)
}

// TestMetaLengths: Names and Values of each length, at each place of lists.
func TestMetaLengths(t *testing.T) {
	for count := 1; count <= 8; count++ {
		for at := range count {
			// The Names of one length rise by their first byte.
			with := func(name, value string) []api.Pair {
				var l []api.Pair
				for i := range count {
					l = append(l, api.Pair{Name: one('b' + i)})
				}
				l[at] = api.Pair{Name: name, Value: value}
				return l
			}
			first := one('b' + at)
			for n := range 40 {
				wantMeta(t, "a Name's length", with(times(n, first), ""), errorIf(n < 1 || n > 16, api.ErrMeta))
				wantMeta(t, "a Name's length", with(times(n, first), times(64, "v")), errorIf(n < 1 || n > 16, api.ErrMeta))
			}
			for n := range 140 {
				wantMeta(t, "a Value's length", with(first, times(n, "v")), errorIf(n > 64, api.ErrMeta))
				wantMeta(t, "a Value's length", with(times(16, first), times(n, "\x00")), errorIf(n > 64, api.ErrMeta))
			}
			for _, n := range []int{256, 257, 272, 320, 1 << 16, 1<<16 + 1, 1 << 20} {
				wantMeta(t, "a great Name", with(times(n, first), ""), api.ErrMeta)
				wantMeta(t, "a great Value", with(first, times(n, "v")), api.ErrMeta)
			}
			wantMeta(t, "no Name", with("", ""), api.ErrMeta)
			wantMeta(t, "no Name", with("", "x"), api.ErrMeta)
		}
	}
	wantMeta(t, "64 characters of two bytes", pairs("a", times(64, "é")), api.ErrMeta)
}

// TestMetaBytes: every byte in Names and in Values, at each place.
func TestMetaBytes(t *testing.T) {
	for c := range 256 {
		want := errorIf(strings.IndexByte(small, byte(c)) < 0, api.ErrMeta)
		wantMeta(t, "a Name of one byte", pairs(one(c), ""), want)
		for n := range 16 {
			for at := range n + 1 {
				name := times(at, "m") + one(c) + times(n-at, "m")
				wantMeta(t, "a byte within a Name", pairs(name, "v"), want)
				if at > 0 {
					wantMeta(t, "a byte within a second Name", pairs("a", "", name, "v", "n", ""), want)
				}
			}
		}
		for n := range 65 {
			wantMeta(t, "a byte in a Value", pairs("a", times(n, one(c)), "b", one(c)+times(max(0, n-1), "v")), api.OK)
		}
		wantMeta(t, "65 of a byte", pairs("a", times(65, one(c))), api.ErrMeta)
	}
	for _, name := range []string{"é", "aé", "\u0161", "a\xff", "a\xc1\xa1", "\ufffd", "a b", "a.b", "aB", "a=", "a\n", "a\x00", "\uff41"} {
		wantMeta(t, "no small name", pairs(name, ""), api.ErrMeta)
		wantMeta(t, "no small name", pairs("-", "", name, ""), api.ErrMeta)
	}
	for c := rune(128); c <= 0x10ffff; c += 7 {
		if names.Meta(pairs(string(c), "")) != api.ErrMeta || names.Meta(pairs("a"+string(c), "")) != api.ErrMeta {
			t.Fatalf("P12.1: Meta takes the character %x in a Name", c)
		}
		if names.Meta(pairs("a", string(c))) != api.OK {
			t.Fatalf("P12.1: Meta does not take the character %x in a Value", c)
		}
	}
}

// TestMetaOrder: all Names of one and two bytes, one behind another, and some
// that begin one another.
func TestMetaOrder(t *testing.T) {
	var l []string
	for _, a := range small {
		l = append(l, string(a))
		for _, b := range small {
			l = append(l, string(a)+string(b))
		}
	}
	for n := range 17 {
		if n > 0 {
			l = append(l, times(n, "k"), times(n, "z"), times(n-1, "k")+"-", times(n-1, "k")+"z")
		}
	}
	two := make([]api.Pair, 2)
	for _, a := range l {
		for _, b := range l {
			two[0].Name, two[1].Name = a, b
			if got, want := names.Meta(two), errorIf(orderOf(a, b) >= 0, api.ErrMeta); got != want {
				t.Fatalf("P12.1: Meta((%s, ..) (%s, ..)) = %d, want %d", a, b, got, want)
			}
		}
	}
	chain := pairs("a", "7", "aa", "6", "aaa", "5", "aaaa", "4", "aaaaa", "3", "aaaaaa", "2", "aaaaaaa", "1", times(16, "a"), "")
	wantMeta(t, "each begins the next", chain, api.OK)
	slices.Reverse(chain)
	wantMeta(t, "each begins the one ahead", chain, api.ErrMeta)
	wantMeta(t, "by bytes, not by length", pairs("z", "", "aa", ""), api.ErrMeta)
	wantMeta(t, "by bytes, not by length", pairs("aa", "", "z", ""), api.OK)
	wantMeta(t, "by bytes, not as numbers", pairs("10", "", "9", ""), api.OK)
	wantMeta(t, "by bytes, not as numbers", pairs("9", "", "10", ""), api.ErrMeta)
	wantMeta(t, "- ahead of digits ahead of letters", pairs("-", "", "0", "", "a", ""), api.OK)
	wantMeta(t, "a - ahead", pairs("a-", "", "a0", "", "aa", ""), api.OK)
}

// TestMetaPlaces: one thing wrong, at each place of eight right pairs.
func TestMetaPlaces(t *testing.T) {
	for i := range 8 {
		for k := range 8 {
			l := eight()
			l[i].Name = l[k].Name
			wantMeta(t, "a Name twice", l, errorIf(i != k, api.ErrMeta))
			l = eight()
			l[i], l[k] = l[k], l[i]
			wantMeta(t, "two in each other's place", l, errorIf(i != k, api.ErrMeta))
			l = eight()
			l[i].Value, l[k].Value = l[k].Value, "v"
			wantMeta(t, "Values have no order", l, api.OK)
		}
		for _, wrong := range []api.Pair{{}, {Name: "N"}, {Name: eight()[i].Name + "-"}, {Name: eight()[i].Name, Value: times(65, "v")}, {Value: "v"}} {
			l := eight()
			l[i] = wrong
			wantMeta(t, "one wrong", l, api.ErrMeta)
		}
	}
}

// TestLessIsRight: all parts of right metadata, both ways about.
func TestLessIsRight(t *testing.T) {
	x := &texter{5}
	for range 100 {
		whole := x.right(8)
		for which := range 256 {
			var part []api.Pair
			for i, p := range whole {
				if which>>i&1 == 1 {
					part = append(part, p)
				}
			}
			if got := names.Meta(part); got != api.OK {
				t.Fatalf("P12.3: Meta(%q), a part of what is right: %d", part, got)
			}
			slices.Reverse(part)
			if got := names.Meta(part); got != errorIf(len(part) > 1, api.ErrMeta) {
				t.Fatalf("P12.3: Meta(%q), which is the other way about: %d", part, got)
			}
		}
	}
}

// TestOrders: of all orders of some pairs one is right.
func TestOrders(t *testing.T) {
	x := &texter{6}
	for n := range 7 {
		whole := x.right(n)
		right, all := 0, 0
		var orders func(l []api.Pair, at int)
		orders = func(l []api.Pair, at int) {
			if at == len(l) {
				all++
				if got := names.Meta(l); got == api.OK {
					right++
				} else if slices.Equal(l, whole) {
					t.Errorf("P12.3: Meta(%q) = %d", l, got)
				}
				return
			}
			for i := at; i < len(l); i++ {
				l[at], l[i] = l[i], l[at]
				orders(l, at+1)
				l[at], l[i] = l[i], l[at]
			}
		}
		orders(slices.Clone(whole), 0)
		if right != 1 {
			t.Errorf("P12.3: %d of %d orders of %q are right", right, all, whole)
		}
	}
}

// part is a key, data or metadata, by what Version is to say of it in a version
// that is no marker, and in a marker.
type part[T any] struct {
	is              T
	plain, inMarker api.Errno
}

func keyParts() []part[string] {
	return []part[string]{
		{"", api.ErrKey, api.ErrKey}, {times(33, "k"), api.ErrKey, api.ErrKey}, {times(1025, "k"), api.ErrKey, api.ErrKey},
		{"k", 0, 0}, {"\x00", 0, 0}, {"\xff\xfe", 0, 0}, {"K é", 0, 0}, {times(32, "k"), 0, 0},
	}
}

func dataParts() []part[string] {
	return []part[string]{
		{times(1025, "d"), api.ErrData, api.ErrData}, {times(5000, "\x00"), api.ErrData, api.ErrData},
		{"", 0, 0}, {"d", 0, api.ErrData}, {"\x00", 0, api.ErrData}, {times(1024, "d"), 0, api.ErrData},
	}
}

func metaParts() []part[[]api.Pair] {
	return []part[[]api.Pair]{
		{nil, 0, 0}, {[]api.Pair{}, 0, 0}, {make([]api.Pair, 0, 9), 0, 0},
		{pairs("a", "x"), 0, api.ErrMeta}, {pairs("a", ""), 0, api.ErrMeta}, {eight(), 0, api.ErrMeta},
		{pairs("", ""), api.ErrMeta, api.ErrMeta}, {pairs("b", "", "a", ""), api.ErrMeta, api.ErrMeta}, {pairs("a", times(65, "v")), api.ErrMeta, api.ErrMeta}, {append(eight(), pairs("z", "")...), api.ErrMeta, api.ErrMeta},
	}
}

// seqs are numbers of versions, of which most are none.
func seqs() []int64 {
	return []int64{0, 1, -1, -5, 7, api.MaxSeq, api.MaxSeq + 1, math.MinInt64, math.MaxInt64}
}

// TestVersion: every choice of keys, data and metadata, right and wrong.
func TestVersion(t *testing.T) {
	firstOf := func(errs ...api.Errno) api.Errno {
		for _, err := range errs {
			if err != api.OK {
				return err
			}
		}
		return api.OK
	}
	for _, k := range keyParts() {
		for _, d := range dataParts() {
			for _, m := range metaParts() {
				for _, seq := range seqs() {
					v := api.Version{Key: k.is, Seq: seq, Data: d.is, Meta: m.is}
					wantVersion(t, "a choice", v, firstOf(k.plain, d.plain, m.plain))
					wantSize(t, "a choice", v, sizeOf(v))
					v.Marker = true
					wantVersion(t, "a choice", v, firstOf(k.inMarker, d.inMarker, m.inMarker))
					wantSize(t, "a choice", v, sizeOf(v))
				}
			}
		}
	}
	wantVersion(t, "zero", api.Version{}, api.ErrKey)
	wantVersion(t, "a zero marker", api.Version{Marker: true}, api.ErrKey)
	both := api.Version{Key: "k", Marker: true, Data: "d", Meta: pairs("a", "x")}
	wantVersion(t, "a marker with both", both, api.ErrData)
	both.Data = ""
	wantVersion(t, "a marker with metadata", both, api.ErrMeta)
	both.Meta = nil
	wantVersion(t, "a marker with neither", both, api.OK)
}

// TestGrows: a byte more, at every place, and a pair more, of any version.
func TestGrows(t *testing.T) {
	x := &texter{7}
	for range 2000 {
		v := x.version()
		size := names.Size(v)
		wantSize(t, "as it is", v, sizeOf(v))
		more := v
		more.Key += x.text(1)
		wantSize(t, "a byte more of Key", more, size+1)
		more = v
		more.Data = x.text(1) + more.Data
		wantSize(t, "a byte more of Data", more, size+1)
		more = v
		more.Seq, more.Marker = more.Seq+1, !more.Marker
		wantSize(t, "another number, and a marker or none", more, size)
		for i := range v.Meta {
			more.Meta = slices.Clone(v.Meta)
			more.Meta[i].Name += x.text(1)
			wantSize(t, "a byte more of a Name", more, size+1)
			more.Meta = slices.Clone(v.Meta)
			more.Meta[i].Value += x.text(1)
			wantSize(t, "a byte more of a Value", more, size+1)
		}
		for i := range len(v.Meta) + 1 {
			p := api.Pair{Name: x.text(x.below(20)), Value: x.text(x.below(80))}
			more.Meta = slices.Insert(slices.Clone(v.Meta), i, p)
			wantSize(t, "a pair more", more, size+len(p.Name)+len(p.Value))
			more.Meta[i] = api.Pair{}
			wantSize(t, "an empty pair more", more, size)
		}
	}
}

// TestGreatest: what Version takes is no greater than 1728, and may be as great.
func TestGreatest(t *testing.T) {
	v := api.Version{Key: times(32, "k"), Seq: 1, Data: times(1024, "d"), Meta: eight()}
	wantVersion(t, "the greatest", v, api.OK)
	wantSize(t, "the greatest", v, 1728)
	more := v
	more.Key += "k"
	wantVersion(t, "a byte more", more, api.ErrKey)
	more = v
	more.Data += "d"
	wantVersion(t, "a byte more", more, api.ErrData)
	for i := range v.Meta {
		more = v
		more.Meta = slices.Clone(v.Meta)
		more.Meta[i].Name += "-"
		wantVersion(t, "a byte more", more, api.ErrMeta)
		more.Meta = slices.Clone(v.Meta)
		more.Meta[i].Value += "v"
		wantVersion(t, "a byte more", more, api.ErrMeta)
	}
	more.Meta = append(slices.Clone(v.Meta), api.Pair{Name: "z"})
	wantVersion(t, "a pair more", more, api.ErrMeta)
	x := &texter{8}
	taken := 0
	for range 20000 {
		v := x.version()
		if names.Version(v) != api.OK {
			continue
		}
		taken++
		if got := names.Size(v); got > 1728 || got < 33 {
			t.Fatalf("P12.4: Version takes %s, whose size is %d", short(v), got)
		}
	}
	if taken < 1000 {
		t.Errorf("only %d versions were right", taken)
	}
}

// TestGreatSizes: sizes of what is far from right.
func TestGreatSizes(t *testing.T) {
	great := times(1<<20, "g")
	v := api.Version{Key: great, Data: great + great, Meta: pairs(great, great, "", great, great, "")}
	wantSize(t, "great", v, 32+7<<20)
	wantVersion(t, "great", v, api.ErrKey)
	many := make([]api.Pair, 1<<18)
	for i := range many {
		many[i] = api.Pair{Name: great[:1000], Value: great[:3]}
	}
	wantSize(t, "many", api.Version{Meta: many}, 32+1003<<18)
	wantSize(t, "many of none", api.Version{Marker: true, Meta: make([]api.Pair, 1<<20)}, 32)
	wantVersion(t, "many", api.Version{Key: "k", Meta: many}, api.ErrMeta)
}

// TestAnything: texts, lists and versions of all kinds, against the chapter's
// words one by one.
func TestAnything(t *testing.T) {
	x := &texter{9}
	var metas, versions [2]int
	for range 30000 {
		s := x.text(x.below(40))
		wantBucket(t, "anything", s, errorIf(!isSmall(s, 32), api.ErrName))
		l := x.meta()
		wantMeta(t, "anything", l, metaOf(l))
		v := x.version()
		wantVersion(t, "anything", v, versionOf(v))
		wantSize(t, "anything", v, sizeOf(v))
		metas[min(1, metaOf(l))]++
		versions[min(1, versionOf(v))]++
	}
	if min(metas[0], metas[1], versions[0], versions[1]) < 1000 {
		t.Errorf("too few of one kind: %d, %d", metas, versions)
	}
}

// TestHandedIn: lists are as they were behind each call, their spare room too,
// and what a list was in an earlier call is forgotten.
func TestHandedIn(t *testing.T) {
	x := &texter{10}
	room := make([]api.Pair, 20)
	for range 3000 {
		l := x.meta()
		for i := range room {
			room[i] = api.Pair{Name: "room", Value: x.text(3)}
		}
		at := x.below(5)
		copy(room[at:], l)
		was := slices.Clone(room)
		mine := room[at : at+len(l)]
		wantMeta(t, "with room", mine, metaOf(l))
		v := api.Version{Key: "k", Marker: x.below(4) == 0, Data: x.text(x.below(2)), Meta: mine}
		wantVersion(t, "with room", v, versionOf(v))
		wantSize(t, "with room", v, sizeOf(v))
		if !slices.Equal(room, was) {
			t.Fatalf("P12.1: a list was %q, and is %q", was, room)
		}
		if len(mine) > 0 {
			mine[x.below(len(mine))] = api.Pair{Name: x.name(x.below(4))}
			wantMeta(t, "changed since", mine, metaOf(mine))
			wantSize(t, "changed since", v, sizeOf(v))
		}
	}
}

// TestArgumentsAlone: the same arguments have the same answers, whatever was
// asked between, and beside others that ask.
func TestArgumentsAlone(t *testing.T) {
	x := &texter{11}
	var versions []api.Version
	for range 300 {
		versions = append(versions, x.version())
	}
	answers := func(v api.Version) string {
		return fmt.Sprint(names.Bucket(v.Key), names.Key(v.Key), names.Data(v.Data), names.Meta(v.Meta), names.Version(v), names.Size(v))
	}
	var first []string
	for _, v := range versions {
		first = append(first, answers(v))
	}
	var group sync.WaitGroup
	for n := range 8 {
		group.Go(func() {
			for i := range versions {
				i = (i*7 + n*37) % len(versions)
				if got := answers(versions[i]); got != first[i] {
					t.Errorf("P12.1: %s: answers %s, and then %s", short(versions[i]), first[i], got)
				}
			}
		})
	}
	group.Wait()
}
