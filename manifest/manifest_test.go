package manifest_test

import (
	"fmt"
	"math"
	"slices"
	"strings"
	"sync"
	"testing"
	"time"

	"coffer/api"
	"coffer/hash"
	"coffer/manifest"
	"coffer/merkle"
	"coffer/version"
)

// wantRead: Read answers as the chapter says; what it reads is written as it was.
func wantRead(t *testing.T, what, b string) {
	t.Helper()
	want, wantN, wantErr := readOf(b)
	got, n, err := manifest.Read(b)
	if !same(got, want) || n != wantN || err != wantErr {
		t.Errorf("P17.1: %s: Read(%.900q) = %s, %d, %d, want %s, %d, %d", what, b, short(got), n, err, short(want), wantN, wantErr)
	}
	if err != api.OK {
		return
	}
	if again, err := manifest.Write(got); again != b[:n] || err != api.OK {
		t.Errorf("P17.2: %s: Write of what Read reads of %.900q = %.900q, %d", what, b, again, err)
	}
}

func wantMalformed(t *testing.T, what, b string) {
	t.Helper()
	if got, n, err := manifest.Read(b); !same(got, whole{}) || n != 0 || err != api.ErrMalformed {
		t.Errorf("P17.1: %s: Read(%.900q) = %s, %d, %d, want nothing, 0, 90", what, b, short(got), n, err)
	}
}

// wantThere: a manifest is written as this text, and read from it, whatever is
// behind; cut short it is none.
func wantThere(t *testing.T, what string, m whole, text string) {
	t.Helper()
	if got, err := manifest.Write(m); got != text || err != api.OK {
		t.Errorf("P17.1: %s: Write(%s) = %.900q, %d, want %.900q", what, short(m), got, err, text)
	}
	for _, behind := range []string{"", "x", "\n", "\x00", "16 end=manifest\n", text} {
		if got, n, err := manifest.Read(text + behind); !same(got, m) || n != len(text) || err != api.OK {
			t.Errorf("P17.2: %s: Read(%.900q and %.20q) = %s, %d, %d, want %s", what, text, behind, short(got), n, err, short(m))
		}
	}
	for at := 0; at < len(text); at += 1 + len(text)/2000 {
		wantMalformed(t, fmt.Sprint(what, ", cut at ", at), text[:at])
	}
	wantMalformed(t, what+", cut at its end", text[:len(text)-1])
}

// wantWrong: a manifest is not right, and neither are its records, were they told.
func wantWrong(t *testing.T, what string, m whole) {
	t.Helper()
	if got, err := manifest.Write(m); got != "" || err != api.ErrArg {
		t.Errorf("P17.1: %s: Write(%s) = %.300q, %d, want nothing, 1", what, short(m), got, err)
	}
	wantMalformed(t, what, textOf(lines(m)))
}

// wantModel: Write answers as the chapter says.
func wantModel(t *testing.T, what string, m whole) {
	t.Helper()
	if text, err := writeOf(m); err == api.OK {
		wantThere(t, what, m, text)
	} else {
		wantWrong(t, what, m)
	}
}

func wantOf(t *testing.T, what string, b api.Bucket, since int64) {
	t.Helper()
	want, wantErr := ofOf(b, since)
	if got, err := manifest.Of(b, since); !same(got, want) || err != wantErr {
		t.Errorf("P17.3: %s: Of(%.300q, %d) = %s, %d, want %s, %d", what, fmt.Sprint(b), since, short(got), err, short(want), wantErr)
	}
}

// exampleBucket is the bucket of the chapter's examples.
func exampleBucket() api.Bucket {
	return api.Bucket{Next: 3, Versions: []api.Version{{Key: "k", Seq: 1, Data: "ab", Meta: pairs("t", "x")}, {Key: "k", Seq: 2, Marker: true}}}
}

// samples are right manifests of all kinds.
func samples() []whole {
	return []whole{
		of(0, 1),
		of(maxNext, maxNext),
		of(0, 2, gone("k", 1)),
		of(1, 3, data("k", 1, 2, pairs("t", "x")...), gone("k", 2)),
		of(7, 9, data("\n=\x00", 8, 0), data("\n=\x00=", 7, 1024, pairs("-", "=\n", "a", "", "ab", "7 end=\n")...)),
		of(0, maxNext, data("a", maxNext-1, 10, pairs("b", "1", "c", "2")...), data("b", 1, 10, pairs("b", "1", "c", "2")...)),
	}
}

func TestExamples(t *testing.T) {
	first := "13 kind=full\n19 format=coffer-1\n9 next=1\n11 count=0\n16 end=manifest\n"
	wantThere(t, "example 1", of(0, 1), first)
	if len(first) != 68 {
		t.Errorf("P17.1: example 1 has %d bytes, want 68", len(first))
	}
	b := exampleBucket()
	leaves := [2]string{}
	for i, v := range b.Versions {
		text, err := version.Write(v)
		if err != api.OK {
			t.Fatalf("P13.1: Write: %d", err)
		}
		leaves[i] = hash.Hex(merkle.Leaf(text))
	}
	items := recs("count", "2", "key", "k", "seq", "1", "type", "data", "size", "2", "meta.t", "x", "leaf", leaves[0], "key", "k", "seq", "2", "type", "marker", "leaf", leaves[1], "end", "manifest")
	for since, head := range []string{recs("kind", "full", "format", "coffer-1", "next", "3"), recs("kind", "delta", "format", "coffer-1", "next", "3", "since", "1")} {
		m, err := manifest.Of(b, int64(since))
		if err != api.OK {
			t.Errorf("P17.1: example 2, since %d: %d", since, err)
		}
		wantThere(t, "example 2", m, head+items)
	}
	for _, since := range []int64{2, 4} {
		if m, err := manifest.Of(b, since); err != api.ErrArg || !same(m, whole{}) {
			t.Errorf("P17.1: example 2, since %d: %s, %d, want nothing, 1", since, short(m), err)
		}
	}

	for _, m := range []whole{
		of(0, 0), of(-1, 1), of(2, 1), of(0, 5, gone("k", 5)), of(0, 5, gone("b", 1), gone("a", 2)), of(0, 5, gone("a", 1), gone("b", 1)),
		of(0, 5, item{Key: "k", Seq: 1, Marker: true, Size: 1}), of(0, 999, list(257, 0, true)...), of(0, 99, list(63, 1024, false)...),
	} {
		wantWrong(t, "example 3", m)
	}
	wantModel(t, "example 3", of(0, 99, list(62, 1024, false)...))

	for _, text := range []string{
		"", strings.TrimSuffix(first, "16 end=manifest\n"), strings.Replace(first, "9 next=1", "11 next=01", 1), strings.Replace(first, "full", "Full", 1),
		strings.Replace(first, "11 count", rec("since", "1")+"11 count", 1), strings.Replace(first, "count=0", "count=1", 1),
	} {
		wantMalformed(t, "example 4", text)
	}
}

// TestHeads: Next and Since at their edges, with no item, one and two.
func TestHeads(t *testing.T) {
	edges := []int64{least, least + 1, -maxNext, -1, 0, 1, 2, 3, 9, 10, 11, 99, 100, maxNext - 2, maxNext - 1, maxNext, maxNext + 1, greatest - 1, greatest}
	for _, next := range edges {
		for _, since := range append(edges, next-1, next, next+1) {
			wantModel(t, "no item", of(since, next))
			wantModel(t, "one item", of(since, next, gone("k", next-1)))
			wantModel(t, "one item", of(since, next, data("k", 1, 0)))
		}
	}
}

// TestSeqs: an item's number at the edges of what Next and Since leave.
func TestSeqs(t *testing.T) {
	for _, m := range []whole{of(0, 1), of(0, 2), of(1, 2), of(2, 2), of(0, 9), of(1, 9), of(5, 9), of(8, 9), of(9, 9), of(0, maxNext), of(maxNext-1, maxNext), of(maxNext, maxNext)} {
		for _, seq := range []int64{least, -m.Next, -1, 0, 1, 2, m.Since - 1, m.Since, m.Since + 1, m.Next - 2, m.Next - 1, m.Next, m.Next + 1, maxNext, greatest} {
			wantModel(t, "a marker's number", of(m.Since, m.Next, gone("k", seq)))
			wantModel(t, "a number", of(m.Since, m.Next, data("k", seq, 1)))
			wantModel(t, "a second number", of(m.Since, m.Next, data("j", m.Next-1, 1), data("k", seq, 1)))
		}
	}
}

// TestKeys: each length, each byte, and their order.
func TestKeys(t *testing.T) {
	for n := range 40 {
		for _, letter := range []string{"k", "\x00", "\xff", "\n", "=", "1"} {
			wantModel(t, "a key's length", of(0, 2, gone(times(n, letter), 1)))
			wantModel(t, "a key's length", of(0, 2, data(times(n, letter), 1, 3, pairs("a", "b")...)))
		}
	}
	for _, n := range []int{33, 256, 257, 288, 65537} {
		wantWrong(t, "a great key", of(0, 2, gone(times(n, "k"), 1)))
	}
	for c := range 256 {
		wantModel(t, "a key's byte", of(0, 2, gone(string([]byte{byte(c)}), 1)))
		wantModel(t, "a key's byte", of(0, 2, data("a"+string([]byte{byte(c)})+"b", 1, 0)))
	}
	for i, a := range keys {
		for j, b := range keys {
			for _, seqs := range [][2]int64{{1, 2}, {2, 1}, {1, 1}, {8, 1}} {
				m := of(0, 9, gone(a, seqs[0]), data(b, seqs[1], 1))
				if seqs[0] != seqs[1] && (i < j || i == j && seqs[0] < seqs[1]) != rightOf(m) {
					t.Fatalf("the model's order of %q and %q", a, b)
				}
				wantModel(t, "two keys", m)
			}
		}
	}
}

// TestOrder: all orders of some items, and a number that stands twice, beside
// one another and far from one another.
func TestOrder(t *testing.T) {
	l := []item{gone("a", 3), data("a", 5, 1), gone("ab", 1), data("b", 2, 4, pairs("x", "")...)}
	var all func(done, left []item)
	all = func(done, left []item) {
		if len(left) == 0 {
			wantModel(t, "an order", of(0, 9, done...))
		}
		for i, x := range left {
			all(append(slices.Clone(done), x), slices.Concat(left[:i], left[i+1:]))
		}
	}
	all(nil, l)
	for i := range l {
		for j := range l {
			twice := slices.Clone(l)
			twice[i].Seq = twice[j].Seq
			wantModel(t, "a number twice", of(0, 9, twice...))
		}
		wantWrong(t, "an item twice", of(0, 9, slices.Insert(slices.Clone(l), i, l[i])...))
	}
	far := list(200, 0, true)
	far[199].Key, far[199].Seq = "l", 1
	wantWrong(t, "a number twice, far apart", of(0, 999, far...))
	far[199].Seq = 200
	wantModel(t, "each number once", of(0, 999, far...))
}

// TestItems: markers that have something, sizes, and metadata.
func TestItems(t *testing.T) {
	for _, size := range []int{math.MinInt, -1 << 32, -1024, -1, 0, 1, 9, 10, 1023, 1024, 1025, 65536, 1 << 32, math.MaxInt} {
		for _, l := range [][]api.Pair{nil, {}, pairs("a", ""), pairs("a", "b", "c", "d")} {
			wantModel(t, "a size", of(0, 2, item{Key: "k", Seq: 1, Size: size, Meta: l}))
			wantModel(t, "a marker with something", of(0, 2, item{Key: "k", Seq: 1, Marker: true, Size: size, Meta: l}))
		}
	}
	with := func(l []api.Pair) whole { return of(0, 9, data("j", 8, 0), data("k", 1, 5, l...), gone("k", 2)) }
	for n := range 12 {
		wantModel(t, "so many pairs", with(many(n)))
	}
	wantWrong(t, "very many pairs", with(many(300)))
	for n := range 70 {
		wantModel(t, "a Value's length", with(pairs("a", times(n, "v"))))
		wantModel(t, "a Name's length", with(pairs(times(n, "n"), "")))
	}
	for c := range 256 {
		wantModel(t, "a Value's byte", with(pairs("a", string([]byte{byte(c), '=', byte(c)}))))
		if c != '=' && c != '\n' { // of which no record is made
			wantModel(t, "a Name's byte", with(pairs("a"+string([]byte{byte(c)}), "v")))
		} else if got, err := manifest.Write(with(pairs("a"+string([]byte{byte(c)}), "v"))); got != "" || err != api.ErrArg {
			t.Errorf("P17.1: a Name with the byte %d: %q, %d", c, got, err)
		}
	}
	for _, a := range []string{"a", "b", "ab", "a-", "-", "0", "z"} {
		for _, b := range []string{"a", "b", "ab", "a-", "-", "0", "z"} {
			wantModel(t, "an order of Names", with(pairs(a, "x", b, "y")))
		}
	}
}

// TestCounts: as many items as may be, and one more; sizes together at the
// limit, and one above.
func TestCounts(t *testing.T) {
	for _, n := range []int{0, 1, 2, 9, 10, 11, 99, 100, 255, 256, 257, 258, 1000} {
		wantModel(t, "so many markers", of(0, 9999, list(n, 0, true)...))
		wantModel(t, "so many items", of(0, 9999, list(n, 0, false)...))
	}
	// 256 markers are 8448 bytes, so that the limit is met by others.
	for _, n := range []int{61, 62, 63, 64} {
		wantModel(t, "so many great ones", of(0, 9999, list(n, 1024, false)...))
	}
	for more := range 4 { // 62 are 65534 bytes
		l := list(62, 1024, false)
		l[30].Key, l[61].Key = "k", "k"+times(more, "x")
		wantModel(t, fmt.Sprint(more, " bytes of a key more"), of(0, 9999, l...))
		l = list(62, 1024, false)
		for i := 1; i <= more; i++ {
			l[i].Meta = pairs("a", "")
		}
		wantModel(t, fmt.Sprint(more, " bytes of Names more"), of(0, 9999, l...))
		l = list(62, 1024, false)
		l[7].Size, l[7].Meta = 1022, pairs("a", times(more, "v"))
		wantModel(t, fmt.Sprint(more, " bytes of a Value more"), of(0, 9999, l...))
		l = list(64, 992-1, false) // 64 times 1024
		l[63].Size += more - 1
		wantModel(t, fmt.Sprint(more, " bytes of data more"), of(0, 9999, l...))
	}
	if rightOf(of(0, 9999, list(64, 992, false)...)) || !rightOf(of(0, 9999, list(64, 991, false)...)) {
		t.Error("the model's limit of sizes")
	}
}

// TestBuckets: Of buckets that are right and that aren't, with since at every
// number about theirs.
func TestBuckets(t *testing.T) {
	x := &texter{1}
	for range 300 {
		b := x.bucket(int64(x.below(5)), 12)
		for since := int64(-2); since < b.Next+3; since++ {
			wantOf(t, "a right bucket", b, since)
		}
		for _, since := range []int64{least, maxNext, maxNext + 1, greatest} {
			wantOf(t, "a right bucket", b, since)
		}
	}
	great := api.Bucket{Next: maxNext, Versions: []api.Version{{Key: times(32, "k"), Seq: maxNext - 1, Data: times(1024, "d"), Meta: many(8)}}}
	for _, since := range []int64{0, 1, maxNext - 2, maxNext - 1, maxNext, maxNext + 1} {
		wantOf(t, "great numbers", great, since)
	}
	for _, next := range []int64{least, -1, 0, 1, maxNext, maxNext + 1, greatest} {
		wantOf(t, "no versions", api.Bucket{Next: next}, 0)
	}
	wrong := []func(v *api.Version){
		func(v *api.Version) { v.Key = "" },
		func(v *api.Version) { v.Key = times(33, "k") },
		func(v *api.Version) { v.Seq = 0 },
		func(v *api.Version) { v.Seq = -3 },
		func(v *api.Version) { v.Seq = maxNext },
		func(v *api.Version) { v.Seq = 9 },
		func(v *api.Version) { v.Data = times(1025, "d") },
		func(v *api.Version) { v.Marker, v.Data = true, "x" },
		func(v *api.Version) { v.Marker, v.Data, v.Meta = true, "", pairs("a", "b") },
		func(v *api.Version) { v.Meta = pairs("b", "", "a", "") },
		func(v *api.Version) { v.Meta = many(9) },
		func(v *api.Version) { v.Meta = pairs("a", times(65, "v")) },
	}
	for i, f := range wrong {
		for at := range 3 {
			b := api.Bucket{Next: 9, Versions: []api.Version{{Key: "a", Seq: 3}, {Key: "b", Seq: 1, Data: "x"}, {Key: "b", Seq: 2, Marker: true}}}
			f(&b.Versions[at])
			if m, err := manifest.Of(b, 0); err != api.ErrArg || !same(m, whole{}) {
				t.Errorf("P17.1: Of, fault %d of version %d: %s, %d, want nothing, 1", i, at, short(m), err)
			}
		}
	}
	versions := func(n, size int) api.Bucket {
		b := api.Bucket{Next: 9999}
		for i := range n {
			b.Versions = append(b.Versions, api.Version{Key: "k", Seq: int64(i) + 1, Data: times(size, "d")})
		}
		return b
	}
	for _, n := range []int{255, 256, 257, 2000} {
		wantOf(t, "so many versions", versions(n, 0), 0)
	}
	for _, n := range []int{62, 63, 64} {
		wantOf(t, "so many great versions", versions(n, 1024), 0)
	}
	wantOf(t, "sizes at the limit", versions(64, 991), 0)
	wantOf(t, "sizes above the limit", versions(64, 992), 0)
	for _, l := range [][]api.Version{
		{{Key: "b", Seq: 1}, {Key: "a", Seq: 2}}, {{Key: "a", Seq: 2}, {Key: "a", Seq: 1}}, {{Key: "a", Seq: 1}, {Key: "a", Seq: 1}}, {{Key: "a", Seq: 1}, {Key: "b", Seq: 1}},
	} {
		if m, err := manifest.Of(api.Bucket{Next: 9, Versions: l}, 0); err != api.ErrArg || !same(m, whole{}) {
			t.Errorf("P17.1: Of %v: %s, %d, want nothing, 1", l, short(m), err)
		}
	}
}

// TestLeaves: the leaves are those of layers 13 and 3.
func TestLeaves(t *testing.T) {
	x := &texter{2}
	for range 200 {
		b := x.bucket(0, 20)
		m, err := manifest.Of(b, 0)
		if err != api.OK || len(m.Items) != len(b.Versions) {
			t.Fatalf("P17.3: Of: %d items of %d versions, %d", len(m.Items), len(b.Versions), err)
		}
		for i, v := range b.Versions {
			if text, _ := version.Write(v); m.Items[i].Leaf != merkle.Leaf(text) {
				t.Fatalf("P17.3: the leaf of %v is %x", v, m.Items[i].Leaf)
			}
		}
	}
}

// isMeta: is a record one of metadata?
func isMeta(l line) bool { return strings.HasPrefix(l.key, "meta.") }

// TestRecords: each record left out, told twice, and changed places with each other.
func TestRecords(t *testing.T) {
	x := &texter{3}
	all := samples()
	for range 30 {
		all = append(all, x.right(4))
	}
	for _, m := range all {
		l := lines(m)
		for i, a := range l {
			what := fmt.Sprintf("record %d (%s) of %s", i, a.key, short(m))
			wantLine(t, what+" left out", slices.Concat(l[:i], l[i+1:]), isMeta(a))
			wantLine(t, what+" twice", slices.Concat(l[:i+1], l[i:]), i == len(l)-1)
			for j, b := range l {
				changed := slices.Clone(l)
				changed[i], changed[j] = b, a
				another := a.key == b.key || isMeta(a) && isMeta(b) && a.of != b.of
				wantLine(t, fmt.Sprint(what, " and ", j, " exchanged"), changed, i == j || another)
				moved := slices.Insert(slices.Concat(l[:i], l[i+1:]), min(j, len(l)-1), a)
				wantRead(t, fmt.Sprint(what, " moved to ", j), textOf(moved))
				wantRead(t, fmt.Sprint(what, " told at ", j, " too"), textOf(slices.Insert(slices.Clone(l), j, a)))
			}
		}
	}
}

// wantLine: records are read as the chapter says, and may be a manifest only
// where P17.4 lets them.
func wantLine(t *testing.T, what string, l []line, may bool) {
	t.Helper()
	text := textOf(l)
	wantRead(t, what, text)
	if _, _, err := manifest.Read(text); err == api.OK && !may {
		t.Errorf("P17.4: %s: it is taken", what)
	}
}

// TestOtherForms: each record with another value, and with another key.
func TestOtherForms(t *testing.T) {
	m := of(12, 40, data("k", 15, 10, pairs("t", "x")...), gone("k", 20), data("l", 13, 0))
	l := lines(m)
	wantThere(t, "as it is", m, textOf(l))
	others := map[string][]string{
		"kind":   {"full", "Full", "FULL", "Delta", "deltas", " delta", "delta ", "", "delt", "delta\n", "other"},
		"format": {"coffer-2", "coffer-01", "coffer-1 ", " coffer-1", "Coffer-1", "coffer-", "coffer", "", "coffer-1\n", "coffer-11"},
		"type":   {"Data", "Marker", "data ", "", "object", "delete", "markers", "0", "1"},
		"leaf":   {"", "0", times(63, "0"), times(65, "0"), times(66, "0"), times(64, "A"), times(63, "0") + "g", times(63, "0") + " ", "0x" + times(62, "0"), times(32, "\x00")},
		"end":    {"", "Manifest", "manifest ", "archive", "manifes", "manifests", "end", "manifest\n"},
	}
	numbers := []string{"", "0", "00", "-0", "+0", "-1", "+1", "1", "01", "1.0", "1e1", "0x1", "1_0", " 1", "1 ", "1\n", "one", "\x00", "٣", "9223372036854775807", "9223372036854775808", "18446744073709551616", "18446744073709551617", "99999999999999999999", "-9223372036854775808", "1099511627777", "1099511627778", "4294967297", "256", "257", "1024", "1025", times(1000, "0") + "1", times(1000, "9")}
	for _, key := range []string{"next", "since", "count", "seq", "size"} {
		others[key] = numbers
	}
	for i, a := range l {
		values := others[a.key]
		if slices.Contains([]string{"next", "since", "count", "seq", "size"}, a.key) {
			values = append(slices.Clone(values), "0"+a.value, "+"+a.value, a.value+".", " "+a.value, a.value+" ", a.value+"0", "00"+a.value, "-"+a.value, times(30, "0")+a.value)
		}
		for _, value := range values {
			changed := slices.Clone(l)
			changed[i].value = value
			wantRead(t, fmt.Sprintf("%s=%q", a.key, value), textOf(changed))
			if value != "full" && !slices.Contains([]string{"next", "since", "seq", "size"}, a.key) && value != a.value && !(a.key == "leaf" && len(value) == 64) {
				wantMalformed(t, fmt.Sprintf("%s=%q", a.key, value), textOf(changed))
			}
		}
		for _, key := range []string{"", "Kind", "kinds", "KEY", "keys", "key ", " key", "Seq", "meta", "meta.", "meta.T", "meta.t", "meta.u", "Meta.t", "meta.é", "end", "leaf", "type", "size", "since", "other", a.key + " ", a.key + ".", strings.ToUpper(a.key)} {
			changed := slices.Clone(l)
			changed[i].key = key
			wantRead(t, fmt.Sprintf("record %d is of %q", i, key), textOf(changed))
		}
		// The record itself in another form.
		head, tail, it := textOf(l[:i]), textOf(l[i+1:]), rec(a.key, a.value)
		for _, other := range []string{"0" + it, " " + it, "+" + it, strings.Replace(it, " ", "  ", 1), strings.TrimSuffix(it, "\n"), "\n" + it, strings.Replace(it, "=", " ", 1), strings.Replace(it, "=", "==", 1), "x", it + "\n"} {
			if i == len(l)-1 && other == it+"\n" {
				continue // behind the end anything may stand
			}
			wantMalformed(t, fmt.Sprintf("record %d as %q", i, other), head+other+tail)
		}
	}
	for _, count := range []string{"0", "1", "2", "4", "5", "256", "257", "1000000"} {
		changed := slices.Clone(l)
		changed[4].value = count
		wantMalformed(t, "count="+count, textOf(changed))
	}
}

// TestEveryByte: right texts with a byte left out, put in and made another, at
// every place.
func TestEveryByte(t *testing.T) {
	for _, m := range samples()[:5] {
		text, err := manifest.Write(m)
		if err != api.OK {
			t.Fatalf("P17.1: Write(%s): %d", short(m), err)
		}
		for at := range len(text) {
			wantRead(t, fmt.Sprint("without byte ", at), text[:at]+text[at+1:])
			wantRead(t, fmt.Sprint("without what is ahead of ", at), text[at:])
			for c := range 256 {
				if c%16 > 2 && strings.IndexByte("0123456789= \nadfg", byte(c)) < 0 {
					continue
				}
				wantRead(t, fmt.Sprint("byte ", at, " made ", c), text[:at]+string([]byte{byte(c)})+text[at+1:])
				wantRead(t, fmt.Sprint("at ", at, " put in ", c), text[:at]+string([]byte{byte(c)})+text[at:])
			}
		}
	}
}

// TestThereAndBack: walks over manifests that are right and that are spoilt, and
// over texts near theirs.
func TestThereAndBack(t *testing.T) {
	x := &texter{4}
	right, wrong := 0, 0
	for range 2500 {
		m := x.right(8)
		text, err := manifest.Write(m)
		got, n, readErr := manifest.Read(text + x.text(x.below(20)))
		if err != api.OK || readErr != api.OK || n != len(text) || !same(got, m) {
			t.Fatalf("P17.2: %s is written with %d, and read as %s, %d with %d", short(m), err, short(got), n, readErr)
		}
		for range 1 + x.below(3) {
			x.spoil(&m)
		}
		if rightOf(m) {
			right++
		} else {
			wrong++
		}
		want, wantErr := writeOf(m)
		if got, err := manifest.Write(m); got != want || err != wantErr {
			t.Fatalf("P17.1: Write(%s) = %.500q, %d, want %.500q, %d", short(m), got, err, want, wantErr)
		}
		wantRead(t, "the records of a spoilt one", textOf(lines(m)))
		changed := []byte(text)
		for range 1 + x.below(3) {
			at := x.below(len(changed))
			switch x.below(3) {
			case 0:
				changed[at] = byte(x.number())
			case 1:
				changed[at] = changed[x.below(len(changed))]
			case 2:
				changed = append(slices.Delete(changed, at, at+1), byte(x.below(3)))
			}
		}
		wantRead(t, "a changed text", string(changed))
		wantRead(t, "any text", x.text(x.below(60)))
		wantRead(t, "any text behind a head", recs("kind", "full", "format", "coffer-1", "next", "5", "count", "1")+x.text(x.below(60)))
	}
	if right < 100 || wrong < 100 {
		t.Errorf("of the spoilt manifests %d are right and %d wrong", right, wrong)
	}
}

// TestSpoiltBuckets: Of any values.
func TestSpoiltBuckets(t *testing.T) {
	x := &texter{5}
	for range 4000 {
		b := x.bucket(int64(x.below(4)), 8)
		if x.below(4) > 0 && len(b.Versions) > 0 {
			v, w := &b.Versions[x.below(len(b.Versions))], &b.Versions[x.below(len(b.Versions))]
			switch x.below(7) {
			case 0:
				v.Seq = w.Seq
			case 1:
				*v, *w = *w, *v
			case 2:
				v.Marker = !v.Marker
			case 3:
				v.Key = w.Key
			case 4:
				v.Seq = int64(x.below(20)) - 3
			case 5:
				v.Meta = append(slices.Clone(v.Meta), w.Meta...)
			case 6:
				b.Next = int64(x.below(20)) - 1
			}
		}
		wantOf(t, "a spoilt bucket", b, int64(x.below(12))-1)
	}
}

// TestGreatTexts: what a text only says is not done, and great texts are soon refused.
func TestGreatTexts(t *testing.T) {
	head := recs("kind", "full", "format", "coffer-1", "next", "1099511627777")
	zeros := times(64, "0")
	var pair, marks strings.Builder
	for i := range 50000 {
		pair.WriteString(rec(fmt.Sprintf("meta.%06d", i), ""))
		marks.WriteString(recs("key", "k", "seq", fmt.Sprint(i+1), "type", "marker", "leaf", zeros))
	}
	item := recs("key", "k", "seq", "1", "type", "data", "size", "0")
	for i, text := range []string{
		head + rec("count", "9223372036854775807"),
		head + rec("count", "256") + rec("other", times(1<<20-20, "x")),
		head + recs("count", "256", "key", times(1<<20-20, "x")),
		head + rec("count", "1") + item + pair.String() + rec("leaf", zeros) + rec("end", "manifest"),
		head + rec("count", "50000") + marks.String() + rec("end", "manifest"),
		head + rec("count", "256") + marks.String() + rec("end", "manifest"),
		times(1<<22, "9"), times(1<<22, "\x00"), times(1<<16, rec("kind", "full")), times(1<<16, head), "1048577 kind=" + times(1<<20, "f"),
	} {
		began := time.Now()
		for range 20 {
			wantMalformed(t, fmt.Sprint("great text ", i), text)
		}
		if took := time.Since(began); took > 10*time.Second {
			t.Errorf("P17.1: great text %d took %v", i, took)
		}
	}
	m := of(0, 9, gone("k", 1))
	text, _ := manifest.Write(m)
	if got, n, err := manifest.Read(text + times(1<<14, text)); !same(got, m) || n != len(text) || err != api.OK {
		t.Errorf("P17.2: with much behind: %s, %d, %d", short(got), n, err)
	}
}

// TestBesideOneAnother: many beside one another tell what one alone tells.
func TestBesideOneAnother(t *testing.T) {
	var all sync.WaitGroup
	shared := samples()[4]
	bucket := exampleBucket()
	for i := range 8 {
		all.Go(func() {
			x := &texter{uint64(i % 2)}
			for range 200 {
				m := x.right(5)
				x.spoil(&m)
				want, wantErr := writeOf(m)
				if got, err := manifest.Write(m); got != want || err != wantErr {
					t.Errorf("P17.1: beside others: Write(%s) = %.300q, %d", short(m), got, err)
				}
				wantRead(t, "beside others", textOf(lines(m)))
				wantRead(t, "beside others", textOf(lines(shared)))
				wantOf(t, "beside others", bucket, int64(x.below(4)))
			}
		})
	}
	all.Wait()
}
