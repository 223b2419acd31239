package archive_test

import (
	"fmt"
	"math/bits"
	"slices"
	"strings"
	"sync"
	"testing"

	"coffer/api"
	"coffer/archive"
	"coffer/hash"
	"coffer/manifest"
	"coffer/merkle"
	"coffer/version"
)

// wantPack: Pack answers as the chapter says, and what it tells is taken back;
// so does Encode of a whole bucket.
func wantPack(t *testing.T, what string, b api.Bucket, since int64) {
	t.Helper()
	want, wantErr := packOf(b, since)
	got, err := archive.Pack(b, since)
	if got != want || err != wantErr {
		t.Errorf("P18.1: %s: Pack(%s, %d) = %.900q, %d, want %.900q, %d", what, short(b), since, got, err, want, wantErr)
	}
	if whole, wholeErr := archive.Encode(b); since == 0 && (whole != got || wholeErr != err) {
		t.Errorf("P18.1: %s: Encode(%s) = %.900q, %d, want Pack's of 0", what, short(b), whole, wholeErr)
	}
	if err != api.OK {
		return
	}
	back, backSince, err := archive.Unpack(got)
	if !same(back, b) || backSince != since || err != api.OK {
		t.Errorf("P18.2: %s: Unpack(Pack(%s, %d)) = %s, %d, %d", what, short(b), since, short(back), backSince, err)
	}
	wantDecode(t, what, got)
}

// wantWrong: a value and a number may not be packed.
func wantWrong(t *testing.T, what string, b api.Bucket, since int64) {
	t.Helper()
	if got, err := archive.Pack(b, since); got != "" || err != api.ErrArg {
		t.Errorf("P18.1: %s: Pack(%s, %d) = %.300q, %d, want nothing, 1", what, short(b), since, got, err)
	}
	if got, err := archive.Encode(b); since == 0 && (got != "" || err != api.ErrArg) {
		t.Errorf("P18.1: %s: Encode(%s) = %.300q, %d, want nothing, 1", what, short(b), got, err)
	}
}

func wantDecode(t *testing.T, what, s string) {
	t.Helper()
	want, wantErr := decodeOf(s)
	if got, err := archive.Decode(s); !same(got, want) || err != wantErr {
		t.Errorf("P18.1: %s: Decode(%.900q) = %s, %d, want %s, %d", what, s, short(got), err, short(want), wantErr)
	}
}

// wantUnpack: Unpack and Decode answer as the chapter says; what Unpack takes
// Pack tells. It tells whether it is taken.
func wantUnpack(t *testing.T, what, s string) bool {
	t.Helper()
	want, wantSince, wantErr := unpackOf(s)
	got, since, err := archive.Unpack(s)
	if !same(got, want) || since != wantSince || err != wantErr {
		t.Errorf("P18.1: %s: Unpack(%.900q) = %s, %d, %d, want %s, %d, %d", what, s, short(got), since, err, short(want), wantSince, wantErr)
	}
	wantDecode(t, what, s)
	if err != api.OK {
		return false
	}
	if again, err := archive.Pack(got, since); again != s || err != api.OK {
		t.Errorf("P18.2: %s: Pack of what Unpack takes of %.900q = %.900q, %d", what, s, again, err)
	}
	return true
}

// wantMalformed: a text is no archive, and nothing is answered beside that.
func wantMalformed(t *testing.T, what, s string) {
	t.Helper()
	if got, since, err := archive.Unpack(s); !same(got, api.Bucket{}) || since != 0 || err != api.ErrMalformed {
		t.Errorf("P18.1: %s: Unpack(%.900q) = %s, %d, %d, want nothing, 0, 90", what, s, short(got), since, err)
	}
	if got, err := archive.Decode(s); !same(got, api.Bucket{}) || err != api.ErrMalformed {
		t.Errorf("P18.1: %s: Decode(%.900q) = %s, %d, want nothing, 90", what, s, short(got), err)
	}
}

// wantIn: a text, with the length and the root that would fit too, is no archive.
func wantIn(t *testing.T, what string, p parts) {
	t.Helper()
	wantMalformed(t, what, p.text())
	wantMalformed(t, what+", measured anew", p.measured().text())
	wantMalformed(t, what+", rooted anew", p.rooted().text())
	wantMalformed(t, what+", rooted and measured anew", p.rooted().measured().text())
}

// example is the value of the chapter's examples.
func example() api.Bucket { return of(3, data("k", 1, "ab"), gone("k", 2)) }

// sample is a value and a number with which it may be packed.
type sample struct {
	b     api.Bucket
	since int64
}

// samples are of all kinds, and not great.
func samples() []sample {
	return []sample{
		{of(1), 0},
		{example(), 0},
		{example(), 1},
		{of(maxNext), maxNext},
		{of(9, gone("a", 3), gone("a", 5), gone("b", 1)), 0},
		{of(9, data("\n=\x00", 8, ""), data("\n=\x00=", 7, times(65, "="), pairs("-", "=\n", "a", "", "ab", "7 end=\n")...)), 7},
		{of(maxNext, data("a", maxNext-1, "x\x00"), data("b", 1, times(64, "\x00")), gone("c", 2), data("d", 4, "\x00"), data("e", 3, rec("root", times(64, "0")))), 0},
	}
}

func (s sample) String() string { return fmt.Sprintf("%s since %d", short(s.b), s.since) }

func TestExamples(t *testing.T) {
	first := "13 kind=full\n19 format=coffer-1\n9 next=1\n11 count=0\n16 end=manifest\n73 root=dbc1b4c900ffe48d575b5da5c638040125f65db0fe3e24494b76ea986457d986\n13 length=68\n"
	if got, err := archive.Encode(of(1)); got != first || err != api.OK || len(first) != 154 {
		t.Errorf("P18.1: example 1: %q, %d, want %q", got, err, first)
	}
	if got, err := archive.Decode(first); !same(got, of(1)) || err != api.OK {
		t.Errorf("P18.1: example 1: Decode: %s, %d", short(got), err)
	}
	for _, s := range samples()[:3] {
		wantPack(t, "an example", s.b, s.since)
	}
	for _, c := range []struct{ data, want string }{{"ab", "ab" + times(62, "\x00")}, {"", ""}, {times(64, "d"), times(64, "d")}, {times(65, "d"), times(65, "d") + times(63, "\x00")}} {
		b := example()
		b.Versions[0].Data = c.data
		got, err := archive.Encode(b)
		_, got, _ = strings.Cut(got, "16 end=manifest\n")
		got, _, _ = strings.Cut(got, "73 root=")
		if got != c.want || err != api.OK {
			t.Errorf("P18.3: example 2: %d bytes of data lie there as %q, %d", len(c.data), got, err)
		}
	}
	delta, err := archive.Pack(example(), 1)
	if !strings.HasPrefix(delta, "14 kind=delta\n19 format=coffer-1\n9 next=3\n11 since=1\n11 count=2\n") || err != api.OK {
		t.Errorf("P18.1: example 3: %q, %d", delta, err)
	}
	wantWrong(t, "example 3", example(), 2)
	if got, err := archive.Decode(delta); !same(got, api.Bucket{}) || err != api.ErrMalformed {
		t.Errorf("P18.1: example 3: Decode: %s, %d", short(got), err)
	}
	if got, since, err := archive.Unpack(delta); !same(got, example()) || since != 1 || err != api.OK {
		t.Errorf("P18.1: example 3: Unpack: %s, %d, %d", short(got), since, err)
	}
	wantMalformed(t, "example 4", "")
	wantMalformed(t, "example 4", first[:153])
	wantMalformed(t, "example 4", first+"\n")
}

// TestSays: an archive begins with its manifest, ends with root and length, and
// has all data between, as the layers below tell them.
func TestSays(t *testing.T) {
	x := &texter{1}
	for range 300 {
		b, since := x.right(12)
		s, err := archive.Pack(b, since)
		m, ofErr := manifest.Of(b, since)
		head, writeErr := manifest.Write(m)
		if err != api.OK || ofErr != api.OK || writeErr != api.OK || !strings.HasPrefix(s, head) {
			t.Fatalf("P18.3: the archive of %s doesn't begin with its manifest (%d, %d, %d)", short(b), err, ofErr, writeErr)
		}
		var texts []string
		at := len(head)
		for _, v := range b.Versions {
			text, _ := version.Write(v)
			texts = append(texts, text)
			behind := at + (len(v.Data)+63)/64*64
			if behind > len(s) || s[at:behind] != v.Data+times(behind-at-len(v.Data), "\x00") {
				t.Fatalf("P18.3: at %d of the archive the data of %q %d isn't there", at, v.Key, v.Seq)
			}
			at = behind
		}
		if want := rec("root", hash.Hex(merkle.Root(texts))) + rec("length", fmt.Sprint(at)); s[at:] != want {
			t.Fatalf("P18.3: the archive of %s ends in %q, want %q", short(b), s[at:], want)
		}
	}
}

// TestData: data of each length about the edges, as the first, middle and last,
// of letters, of zeros, and with zeros at its end.
func TestData(t *testing.T) {
	lengths := []int{0, 1, 2, 31, 62, 63, 64, 65, 66, 126, 127, 128, 129, 191, 192, 193, 511, 512, 513, 960, 961, 1022, 1023, 1024, 1025, 1026, 2048, 65536}
	for _, n := range lengths {
		for _, text := range []string{times(n, "d"), times(n, "\x00"), times(n/2, "d") + times(n-n/2, "\x00"), times(n/2, "\x00") + times(n-n/2, "d"), times(max(n-1, 0), "d") + times(min(n, 1), "\x00")} {
			for at := range 4 {
				b := of(9, data("a", 1, "first"), data("b", 2, ""), gone("c", 3), data("d", 4, times(64, "l")))
				if at == 2 {
					b.Versions[2].Marker = false
				}
				b.Versions[at].Data = text
				wantPack(t, fmt.Sprint(n, " bytes"), b, int64(at%2))
			}
			wantPack(t, fmt.Sprint(n, " bytes twice"), of(9, data("a", 1, text), data("b", 2, text)), 0)
			wantPack(t, fmt.Sprint(n, " bytes alone"), of(9, data("a", 8, text)), 8)
			wantPack(t, fmt.Sprint(n, " bytes of a marker"), of(9, api.Version{Key: "a", Seq: 8, Marker: true, Data: text}), 0)
		}
	}
	for c := range 256 {
		one := string([]byte{byte(c)})
		wantPack(t, "a byte", of(9, data("a", 1, one), data("b", 2, "x"+one+"x"), data("c", 3, times(64, one))), 0)
	}
	// Data with zeros at its end is another value's than without them, though
	// both lie there as the same bytes.
	longer, _ := archive.Encode(of(2, data("a", 1, "x\x00")))
	shorter, _ := archive.Encode(of(2, data("a", 1, "x")))
	if longer == shorter {
		t.Error("P18.2: two values have one archive")
	}
}

// TestCounts: values without versions, with markers alone, with as many versions
// as may be, and one more; sizes together at the limit, and one above.
func TestCounts(t *testing.T) {
	for _, next := range []int64{least, -1, 0, 1, 2, 9, 10, maxNext - 1, maxNext, maxNext + 1, greatest} {
		for _, since := range []int64{least, -1, 0, 1, 2, next - 1, next, next + 1, maxNext, maxNext + 1, greatest} {
			wantPack(t, "no versions", of(next), since)
			wantPack(t, "a marker alone", of(next, gone("k", next-1)), since)
			wantPack(t, "one version", of(next, data("k", next-1, "x")), since)
		}
	}
	for _, n := range []int{1, 2, 3, 4, 5, 7, 8, 9, 99, 100, 127, 128, 129, 255, 256, 257, 300} {
		wantPack(t, "so many markers", of(999, list(n, "", true)...), 0)
		wantPack(t, "so many markers", of(999, list(n, "", true)...), 1)
		wantPack(t, "so many without data", of(999, list(n, "", false)...), 0)
		wantPack(t, "so many", of(999, list(n, "d", false)...), 0)
		wantPack(t, "so many, of just so much data", of(999, list(n, times(128, "d"), false)...), 0)
	}
	for _, n := range []int{62, 63, 64} {
		wantPack(t, "so many great ones", of(999, list(n, times(1024, "d"), false)...), 0)
	}
	for _, size := range []int{990, 991, 992} { // 64 times 1024 with 991
		wantPack(t, "sizes together", of(999, list(64, times(size, "d"), false)...), 1)
	}
	wide := list(256, times(223, "d"), false) // 256 times 256
	wantPack(t, "as many and as great as may be", of(257, wide...), 0)
	wide[255].Data += "d"
	wantPack(t, "a byte too many", of(257, wide...), 0)
}

// greatBucket has as many versions as may be, whose sizes are together just the
// limit, with as much metadata as there is room for.
func greatBucket() api.Bucket {
	b := of(maxNext)
	for i := range 256 {
		v := api.Version{Key: fmt.Sprintf("%032d", i), Seq: maxNext - 256 + int64(i)}
		for j := range 8 {
			v.Meta = append(v.Meta, api.Pair{Name: string(small[1+j]), Value: times(7, "v")})
		}
		v.Data = times(256-32-32-64, "\xff")
		b.Versions = append(b.Versions, v)
	}
	return b
}

// TestGreat: the archive of what is greatest is far from the limit.
func TestGreat(t *testing.T) {
	b := greatBucket()
	for _, since := range []int64{0, maxNext - 257, maxNext - 256, maxNext - 255} {
		wantPack(t, "the greatest", b, since)
	}
	if s, err := archive.Encode(b); len(s) > api.MaxArchive/2 || err != api.OK {
		t.Errorf("P18.1: the archive of the greatest value has %d bytes, %d", len(s), err)
	}
	b.Versions[17].Meta[3].Value += "v"
	wantPack(t, "a byte too many", b, 0)
}

// TestSince: each number about those of a value.
func TestSince(t *testing.T) {
	x := &texter{2}
	for range 60 {
		b := x.bucket(int64(x.below(5)), 6)
		for since := int64(-2); since < b.Next+3; since++ {
			wantPack(t, "a number", b, since)
		}
		for _, since := range []int64{least, -maxNext, maxNext - 1, maxNext, maxNext + 1, greatest} {
			wantPack(t, "a number", b, since)
		}
	}
}

// TestWrongValues: each fault of a version, and of versions together.
func TestWrongValues(t *testing.T) {
	many := func(n int) (l []api.Pair) {
		for i := range n {
			l = append(l, api.Pair{Name: fmt.Sprintf("n%03d", i)})
		}
		return l
	}
	faults := []func(v *api.Version){
		func(v *api.Version) { v.Key = "" },
		func(v *api.Version) { v.Key = times(33, "k") },
		func(v *api.Version) { v.Seq = 0 },
		func(v *api.Version) { v.Seq = -3 },
		func(v *api.Version) { v.Seq = least },
		func(v *api.Version) { v.Seq = maxNext },
		func(v *api.Version) { v.Seq = 9 },
		func(v *api.Version) { v.Data, v.Marker = times(1025, "d"), false },
		func(v *api.Version) { v.Marker, v.Data = true, "x" },
		func(v *api.Version) { v.Marker, v.Data = true, "\x00" },
		func(v *api.Version) { v.Marker, v.Data, v.Meta = true, "", pairs("a", "b") },
		func(v *api.Version) { v.Marker, v.Meta = false, pairs("b", "", "a", "") },
		func(v *api.Version) { v.Marker, v.Meta = false, pairs("a", "", "a", "") },
		func(v *api.Version) { v.Marker, v.Meta = false, many(9) },
		func(v *api.Version) { v.Marker, v.Meta = false, pairs("a", times(65, "v")) },
		func(v *api.Version) { v.Marker, v.Meta = false, pairs("A", "") },
		func(v *api.Version) { v.Marker, v.Meta = false, pairs("", "") },
		func(v *api.Version) { v.Marker, v.Meta = false, pairs(times(17, "n"), "") },
	}
	for i, f := range faults {
		for at := range 3 {
			b := of(9, data("a", 3, ""), data("b", 1, "x"), gone("b", 2))
			f(&b.Versions[at])
			wantWrong(t, fmt.Sprint("fault ", i, " of version ", at), b, 0)
			wantWrong(t, fmt.Sprint("fault ", i, " of version ", at), b, 1)
		}
	}
	for _, l := range [][]api.Version{
		{gone("b", 1), gone("a", 2)}, {data("a", 2, "x"), data("a", 1, "y")}, {gone("a", 1), gone("a", 1)}, {gone("a", 1), gone("b", 1)}, {data("ab", 1, ""), data("a", 2, "")}, {gone("a", 3), gone("b", 2), gone("c", 3)},
	} {
		wantWrong(t, "an order", of(9, l...), 0)
		wantWrong(t, "an order", of(9, l...), 1)
	}
	wantWrong(t, "very many versions", of(maxNext, list(5000, "", false)...), 0)
}

// TestCut: cut short at each byte, without its beginning, and with anything
// behind it.
func TestCut(t *testing.T) {
	for _, s := range samples() {
		text := partsOf(s.b, s.since).text()
		if !wantUnpack(t, "as it is", text) {
			t.Errorf("P18.2: the archive of %s is not taken", s)
		}
		for at := range len(text) {
			wantMalformed(t, fmt.Sprint("cut at ", at), text[:at])
			if at > 0 {
				wantMalformed(t, fmt.Sprint("from ", at, " on"), text[at:])
			}
		}
		for c := range 256 {
			wantMalformed(t, "a byte behind it", text+string([]byte{byte(c)}))
			wantMalformed(t, "a byte ahead of it", string([]byte{byte(c)})+text)
		}
		for _, behind := range []string{"\x00\x00", times(64, "\x00"), times(512, "\x00"), text, rec("length", "68"), rec("end", "archive"), rec("root", times(64, "0")), rec("kind", "full"), "\n\n", "trailing"} {
			wantMalformed(t, fmt.Sprintf("%q behind it", behind), text+behind)
			wantMalformed(t, fmt.Sprintf("%q ahead of it", behind), behind+text)
		}
	}
}

// TestEveryByte: each byte turned, taken away and laid in, at each place: of the
// first text each byte made each other one, of the others each bit turned.
func TestEveryByte(t *testing.T) {
	taken := 0
	for i, s := range samples() {
		text := partsOf(s.b, s.since).text()
		for at := range len(text) {
			wantUnpack(t, fmt.Sprint("without byte ", at), text[:at]+text[at+1:])
			for c := range 256 {
				bit := bits.OnesCount8(text[at]^byte(c)) == 1
				if i > 0 && !bit && strings.IndexByte("\x00\xff 019=\naf", byte(c)) < 0 {
					continue
				}
				one := string([]byte{byte(c)})
				if wantUnpack(t, fmt.Sprint("byte ", at, " made ", c), text[:at]+one+text[at+1:]) && text[at] != byte(c) {
					taken++
				}
				wantUnpack(t, fmt.Sprint("at ", at, " laid in ", c), text[:at]+one+text[at:])
			}
		}
	}
	// Another Next is another value, whose archive differs in that digit alone.
	if taken == 0 {
		t.Error("of the changed texts none is another value's archive")
	}
}

// TestFill: a byte other than 0 in the fill, more zeros than there should be,
// fewer, and none.
func TestFill(t *testing.T) {
	for _, n := range []int{0, 1, 2, 62, 63, 64, 65, 127, 128, 1000, 1024} {
		for which := range 3 {
			texts := []string{"one", "two", "three"}
			texts[which] = times(n, "d")
			b := of(9, data("a", 1, texts[0]), data("b", 2, texts[1]), gone("c", 3), data("d", 4, texts[2]))
			p := partsOf(b, 0)
			wantUnpack(t, "as it is", p.text())
			place := []int{0, 1, 3}[which]
			whole := p.contents[place]
			with := func(what, contents string) {
				q := p.copy()
				q.contents[place] = contents
				wantIn(t, fmt.Sprint(n, " bytes of version ", place, ", ", what), q)
			}
			for at := n; at < len(whole); at++ {
				with(fmt.Sprint("a byte 1 at ", at), whole[:at]+"\x01"+whole[at+1:])
				with(fmt.Sprint("a blank at ", at), whole[:at]+" "+whole[at+1:])
				with(fmt.Sprint("a byte 255 at ", at), whole[:at]+"\xff"+whole[at+1:])
				with(fmt.Sprint("the fill cut at ", at), whole[:at])
			}
			for _, more := range []int{1, 2, 63, 64, 65, 128, 512} {
				with(fmt.Sprint(more, " zeros more"), whole+times(more, "\x00"))
				with(fmt.Sprint(more, " zeros ahead"), times(more, "\x00")+whole)
			}
			if n > 0 {
				with("a byte of data fewer", whole[1:])
				with("a byte of data turned", "e"+whole[1:])
				with("none of it", "")
			}
		}
	}
}

// TestMarkersFill: of a marker, and of no data, nothing stands among the contents.
func TestMarkersFill(t *testing.T) {
	p := partsOf(of(9, data("a", 1, "x"), gone("b", 2), data("c", 3, ""), data("d", 4, "y")), 0)
	for place := range 4 {
		for _, n := range []int{1, 64, 128} {
			q := p.copy()
			q.contents[place] += times(n, "\x00")
			wantIn(t, fmt.Sprint(n, " zeros behind version ", place), q)
		}
	}
	for _, s := range samples() {
		q := partsOf(s.b, s.since)
		q.contents = append(q.contents, times(64, "\x00"))
		wantIn(t, "zeros behind the last version", q)
		q.contents[len(q.contents)-1] = rec("end", "contents")
		wantIn(t, "a record behind the last version", q)
	}
}

// TestTrailer: the trailer's records with other values and keys, in another
// form, left out, told twice and changed places.
func TestTrailer(t *testing.T) {
	for _, s := range samples() {
		p := partsOf(s.b, s.since)
		root, length := p.tail[0], p.tail[1]
		roots := []string{"", "0", root.value[:63], root.value + "0", " " + root.value, root.value + " ", root.value + "\n", times(64, "0"), times(64, "f"), times(64, "g"), strings.ToUpper(root.value) + "A", "0x" + root.value, root.value[:62], rootOf([]string{root.value, root.value}), rootOf(nil) + rootOf(nil)}
		if upper := strings.ToUpper(root.value); upper != root.value {
			roots = append(roots, upper)
		}
		if none := rootOf(nil); none != root.value {
			roots = append(roots, none)
		}
		for at := range 64 {
			other := []byte(root.value)
			other[at] = "1032547698badcfe"[strings.IndexByte("0123456789abcdef", other[at])]
			roots = append(roots, string(other))
		}
		n := len(p.body())
		lengths := []string{"", "0", "1", "x", fmt.Sprint(n - 1), fmt.Sprint(n + 1), fmt.Sprint(-n), fmt.Sprint(len(p.text())), fmt.Sprint(n + 73), fmt.Sprintf("%x", n), fmt.Sprintf("0x%x", n), fmt.Sprintf("0%o", n), "0" + length.value, "00" + length.value, times(90, "0") + length.value, "+" + length.value, " " + length.value, length.value + " ", length.value + "\n", length.value + "0", length.value + ".0", length.value + "e0", fmt.Sprint(n + 64), fmt.Sprint(n - 64), "9223372036854775807", fmt.Sprint(uint64(1<<63) + uint64(n)), "18446744073709551616", times(900, "9")}
		with := func(what string, l ...line) {
			wantMalformed(t, what, p.body()+recs(l))
		}
		for _, value := range roots {
			with("another root", line{"root", value}, length)
		}
		for _, value := range lengths {
			with("another length", root, line{"length", value})
		}
		for _, key := range []string{"Root", "ROOT", "roots", "roo", " root", "root ", "length", "leaf", "hash", "end"} {
			with("another key of the root", line{key, root.value}, length)
		}
		for _, key := range []string{"Length", "LENGTH", "lengths", "len", " length", "length ", "root", "size", "end"} {
			with("another key of the length", root, line{key, length.value})
		}
		with("no trailer")
		with("no length", root)
		with("no root", length)
		with("changed places", length, root)
		with("the root twice", root, root, length)
		with("the length twice", root, length, length)
		with("the trailer twice", root, length, root, length)
		with("the root again", root, length, root)
		with("the length ahead too", length, root, length)
		with("a record between", root, line{"more", ""}, length)
		with("a record ahead", line{"more", ""}, root, length)
		with("a record behind", root, length, line{"end", "archive"})
		for _, it := range []line{root, length} {
			record := rec(it.key, it.value)
			for _, other := range []string{"0" + record, " " + record, "+" + record, strings.Replace(record, " ", "  ", 1), strings.TrimSuffix(record, "\n"), record + "\n", "\n" + record, strings.Replace(record, "=", "==", 1), strings.Replace(record, "=", ":", 1), strings.Replace(record, "\n", "\r\n", 1), strings.Replace(record, record[:1], "9", 1) + "x"} {
				wantMalformed(t, fmt.Sprintf("a record as %q", other), strings.Replace(p.text(), record, other, 1))
			}
		}
		wantMalformed(t, "the trailer ahead of the contents", recs(p.head)+recs(p.tail)+strings.Join(append(p.contents, "\x00"), ""))
	}
}

// TestLeaves: another leaf in the manifest, also with the root that it makes.
func TestLeaves(t *testing.T) {
	b := of(9, data("a", 1, "x"), gone("b", 2), data("c", 3, ""), data("d", 4, times(70, "y"), pairs("m", "v")...), gone("e", 5))
	for _, since := range []int64{0, 1} {
		p := partsOf(b, since)
		for i := range b.Versions {
			at := p.at("leaf", i)
			it := p.head[at].value
			others := []string{times(64, "0"), times(64, "f"), strings.ToUpper(it), it[1:] + it[:1], it[:63], it + "0", "", rootOf(nil)}
			for j := range 64 {
				others = append(others, it[:j]+string("1032547698badcfe"[strings.IndexByte("0123456789abcdef", it[j])])+it[j+1:])
			}
			for j := range b.Versions {
				if j != i {
					others = append(others, p.head[p.at("leaf", j)].value)
				}
			}
			for _, other := range others {
				q := p.copy()
				q.head[at].value = other
				wantMalformed(t, fmt.Sprintf("leaf %d is %q", i, other), q.text())
				if len(other) == 64 {
					wantIn(t, fmt.Sprintf("leaf %d is %q", i, other), q)
				}
			}
			q := p.copy()
			q.head = slices.Delete(q.head, at, at+1)
			wantMalformed(t, "a leaf left out", q.measured().text())
			for j := range i {
				q := p.copy()
				other := p.at("leaf", j)
				q.head[at], q.head[other] = q.head[other], q.head[at]
				wantIn(t, fmt.Sprint("leaves ", i, " and ", j, " exchanged"), q)
			}
		}
	}
}

// TestExchanged: the contents of two versions exchanged, alone and with all that
// goes by them.
func TestExchanged(t *testing.T) {
	texts := []string{"one", "two", "", times(64, "x"), times(65, "y"), "\x00", "one", times(64, "z")}
	var l []api.Version
	for i, text := range texts {
		l = append(l, data(fmt.Sprint("k", i), int64(i)+1, text))
	}
	b := of(99, l...)
	p := partsOf(b, 0)
	for i := range l {
		for j := range i {
			q := p.copy()
			q.contents[i], q.contents[j] = q.contents[j], q.contents[i]
			what := fmt.Sprint("contents ", i, " and ", j, " exchanged")
			// Nothing and what stands beside it are the same bytes both ways about.
			if q.text() == p.text() {
				if !wantUnpack(t, what, q.text()) {
					t.Errorf("P18.2: %s: the text is as it was, and not taken", what)
				}
				continue
			}
			wantIn(t, what, q)
			if len(texts[i]) != len(texts[j]) {
				x, y := q.at("size", i), q.at("size", j)
				q.head[x], q.head[y] = q.head[y], q.head[x]
				wantIn(t, what+" and sizes", q)
			}
			x, y := q.at("leaf", i), q.at("leaf", j)
			q.head[x], q.head[y] = q.head[y], q.head[x]
			wantIn(t, what+" and leaves", q)

			other := of(99, slices.Clone(l)...)
			other.Versions[i].Data, other.Versions[j].Data = texts[j], texts[i]
			if !wantUnpack(t, what+" in the value", partsOf(other, 0).text()) {
				t.Errorf("P18.2: %s in the value: it is not taken", what)
			}
			wantMalformed(t, what+" in the value, but for the trailer", partsOf(other, 0).body()+recs(p.tail))
			wantMalformed(t, what+" in the value, but for the manifest", recs(p.head)+strings.Join(partsOf(other, 0).contents, "")+recs(p.tail))
		}
	}
}

// TestSizes: sizes and counts other than what stands there.
func TestSizes(t *testing.T) {
	b := of(9, data("a", 1, "x"), gone("b", 2), data("c", 3, times(64, "y")), data("d", 4, times(65, "z")), data("e", 5, "w\x00\x00"))
	p := partsOf(b, 0)
	numbers := []string{"", "-1", "0", "1", "2", "3", "4", "5", "6", "63", "64", "65", "66", "127", "128", "129", "192", "193", "1000", "1023", "1024", "1025", "65536", "4294967296", "4294967297", "9223372036854775807", "9223372036854775808", "18446744073709551616", "18446744073709551617", "-9223372036854775808", "-64", "01", "+1", "1 ", " 1", "0x1", "1e0", "one"}
	for i := range 4 {
		at := p.at("size", i)
		for _, number := range numbers {
			if q := p.copy(); q.head[at].value != number {
				q.head[at].value = number
				wantIn(t, fmt.Sprintf("size %d is %q", i, number), q)
			}
		}
	}
	at := p.at("count", 0)
	for _, number := range append(numbers, "256", "257", "100000") {
		if q := p.copy(); q.head[at].value != number {
			q.head[at].value = number
			wantIn(t, fmt.Sprintf("count is %q", number), q)
		}
	}
	for i := range b.Versions {
		q := p.copy()
		from, to := p.at("key", i), p.at("leaf", i)+1
		q.head = slices.Delete(q.head, from, to)
		wantIn(t, fmt.Sprint("item ", i, " left out"), q)
		q.head[at].value = "4"
		if p.contents[i] != "" {
			wantIn(t, fmt.Sprint("item ", i, " left out and not counted"), q)
		}
		q = p.copy()
		q.contents[i] += q.contents[i]
		if p.contents[i] != "" {
			wantIn(t, fmt.Sprint("contents ", i, " twice"), q)
		}
	}
	// Each of the manifest's records with each other's value.
	for i := range p.head {
		for j := range p.head {
			q := p.copy()
			q.head[i].value = p.head[j].value
			wantUnpack(t, fmt.Sprint("record ", i, " with the value of ", j), q.rooted().measured().text())
			q.head[i], q.head[j] = p.head[j], p.head[i]
			wantUnpack(t, fmt.Sprint("records ", i, " and ", j, " exchanged"), q.rooted().measured().text())
		}
	}
}

// TestKinds: Decode takes no delta's archive, whatever it has, and one kind's
// text is not taken for the other's.
func TestKinds(t *testing.T) {
	x := &texter{3}
	for range 200 {
		b := x.bucket(1, 5)
		for since := int64(0); since <= b.Next; since++ {
			s, err := archive.Pack(b, since)
			if err != api.OK {
				continue
			}
			got, err := archive.Decode(s)
			if since == 0 && (!same(got, b) || err != api.OK) || since > 0 && (!same(got, api.Bucket{}) || err != api.ErrMalformed) {
				t.Fatalf("P18.1: Decode of the archive of %s since %d: %s, %d", short(b), since, short(got), err)
			}
		}
		p := partsOf(b, 1)
		p.head[0].value = "full"
		wantIn(t, "a full one with since", p)
		p.head = slices.Delete(p.head, 3, 4)
		if !wantUnpack(t, "a full one", p.measured().text()) {
			t.Fatalf("P18.2: the archive of %s is not taken", short(b))
		}
		p.head[0].value = "delta"
		wantIn(t, "a delta without since", p)
		p.head = slices.Insert(p.head, 3, line{"since", "0"})
		wantIn(t, "a delta since 0", p)
		p.head[0].value = "full"
		wantIn(t, "a full one since 0", p)
	}
}

// TestThereAndBack: walks over values that may be packed and that are spoilt,
// and over texts near theirs.
func TestThereAndBack(t *testing.T) {
	x := &texter{4}
	right, wrong, taken := 0, 0, 0
	for range 1500 {
		b, since := x.right(8)
		wantPack(t, "a right value", b, since)
		p := partsOf(b, since)
		text := p.text()
		changed := []byte(text)
		for range 1 + x.below(3) {
			at := x.below(len(changed))
			switch x.below(4) {
			case 0:
				changed[at] = byte(x.number())
			case 1:
				changed[at] = changed[x.below(len(changed))]
			case 2:
				changed = append(slices.Delete(changed, at, at+1), byte(x.below(3)))
			case 3:
				changed = slices.Insert(changed, at, changed[x.below(len(changed))])
			}
		}
		wantUnpack(t, "a changed text", string(changed))
		wantUnpack(t, "any text", x.text(x.below(200)))
		wantUnpack(t, "any text behind a manifest", recs(p.head)+x.text(x.below(200)))
		wantUnpack(t, "any text ahead of the trailer", recs(p.head)+strings.Join(p.contents, "")+x.text(x.below(3))+recs(p.tail))
		for range 1 + x.below(3) {
			x.spoil(&b, &since)
		}
		if mayPack(b, since) {
			right++
		} else {
			wrong++
		}
		wantPack(t, "a spoilt value", b, since)
		if wantUnpack(t, "what would be a spoilt value's archive", partsOf(b, since).text()) {
			taken++
		}
	}
	if right < 100 || wrong < 100 || taken != right {
		t.Errorf("of the spoilt values %d are right, %d wrong; %d are taken back", right, wrong, taken)
	}
}

// TestUnlike: no two unlike values or numbers have one archive.
func TestUnlike(t *testing.T) {
	seen := map[string]sample{}
	x := &texter{5}
	for range 4000 {
		b, since := x.right(2)
		s, err := archive.Pack(b, since)
		if err != api.OK {
			t.Fatalf("P18.1: Pack(%s, %d): %d", short(b), since, err)
		}
		if other, found := seen[s]; found && (!same(other.b, b) || other.since != since) {
			t.Fatalf("P18.2: %s and %s have one archive", sample{b, since}, other)
		}
		seen[s] = sample{b, since}
	}
}

// TestOddTexts: texts out of the ordinary.
func TestOddTexts(t *testing.T) {
	for _, s := range []string{
		"", "\x00", "\n", " ", "=", "x", "0", "1", "13", "13 ", "13 kind=full", "13 kind=full\n", "coffer-1", "é", "\xff\xfe", "null", "{}", "PK\x03\x04", "\x1f\x8b",
		times(154, "\x00"), times(512, "\x00"), times(1<<20, "\x00"), times(1<<16, "13 kind=full\n"), times(1<<16, "\n"), times(1<<20, "9"), "99999999999999999999 kind=full\n", "-13 kind=full\n", "1048577 kind=" + times(1<<20, "f"),
		rec("root", rootOf(nil)) + rec("length", "0"), rec("length", "0"), rec("kind", times(1<<20-30, "f")), rec("end", "manifest") + rec("root", rootOf(nil)) + rec("length", "16"),
	} {
		wantMalformed(t, "an odd text", s)
	}
	all := partsOf(of(1), 0).text()
	for c := range 256 {
		wantMalformed(t, "one byte", string([]byte{byte(c)}))
		wantMalformed(t, "one byte many times", times(200, string([]byte{byte(c)})))
	}
	wantMalformed(t, "with other ends of lines", strings.ReplaceAll(all, "\n", "\r\n"))
	wantMalformed(t, "in capitals", strings.ToUpper(all))
	wantMalformed(t, "many times", times(1000, all))
	wantMalformed(t, "as wide characters", string([]rune(strings.ReplaceAll(all, "=", "＝"))))
}

// TestBesideOneAnother: many beside one another tell what one alone tells.
func TestBesideOneAnother(t *testing.T) {
	var all sync.WaitGroup
	shared := samples()[6]
	text := partsOf(shared.b, shared.since).text()
	for i := range 8 {
		all.Go(func() {
			x := &texter{uint64(i % 2)}
			for range 60 {
				b, since := x.right(5)
				wantPack(t, "beside others", b, since)
				x.spoil(&b, &since)
				wantPack(t, "beside others", b, since)
				wantPack(t, "beside others", shared.b, shared.since)
				wantUnpack(t, "beside others", text)
				wantUnpack(t, "beside others", text[:x.below(len(text))])
			}
		})
	}
	all.Wait()
}
