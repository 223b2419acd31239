package archive_test

import (
	"fmt"
	"runtime"
	"slices"
	"testing"
	"time"
	"unsafe"

	"coffer/api"
	"coffer/archive"
	"coffer/manifest"
)

// roomy is a value whose lists have spare room that isn't zero.
func roomy(b api.Bucket) api.Bucket {
	l := slices.Clone(b.Versions)
	for i := range l {
		n := len(l[i].Meta)
		l[i].Meta = append(slices.Clone(l[i].Meta), pairs("spare0", "room", "spare1", "room", "spare2", "room")...)[:n]
	}
	l = append(l, gone("spare", 77), data("spare", 78, "room", pairs("a", "b")...))
	b.Versions = l[:len(b.Versions)]
	return b
}

// allVersions and allPairs are lists with their spare room.
func allVersions(l []api.Version) []api.Version { return l[:cap(l)] }
func allPairs(l []api.Pair) []api.Pair          { return l[:cap(l)] }

// deep is a copy of a value, spare room too.
func deep(b api.Bucket) api.Bucket {
	l := slices.Clone(allVersions(b.Versions))
	for i := range l {
		n := len(l[i].Meta)
		l[i].Meta = slices.Clone(allPairs(l[i].Meta))[:n]
	}
	b.Versions = l[:len(b.Versions)]
	return b
}

// sameDeep: are two values the same, spare room too?
func sameDeep(a, b api.Bucket) bool {
	n := min(cap(a.Versions), cap(b.Versions))
	return a.Next == b.Next && len(a.Versions) == len(b.Versions) && slices.EqualFunc(a.Versions[:n], b.Versions[:n], func(a, b api.Version) bool {
		n := min(cap(a.Meta), cap(b.Meta))
		return sameVersion(a, b) && slices.Equal(a.Meta[:n], b.Meta[:n])
	})
}

// overwrite makes all of a value's lists other ones, spare room too.
func overwrite(b api.Bucket) {
	l := allVersions(b.Versions)
	for i := range l {
		p := allPairs(l[i].Meta)
		for j := range p {
			p[j] = api.Pair{Name: "other", Value: "other"}
		}
		l[i] = api.Version{Key: "other", Seq: 5}
	}
}

// TestPackLeavesIt: what is handed in to Pack and Encode stays as it is, spare
// room too, and isn't kept.
func TestPackLeavesIt(t *testing.T) {
	x := &texter{6}
	for range 500 {
		b, since := x.right(6)
		if x.below(3) == 0 {
			x.spoil(&b, &since)
		}
		b = roomy(b)
		before := deep(b)
		text, err := archive.Pack(b, since)
		whole, wholeErr := archive.Encode(b)
		if !sameDeep(b, before) {
			t.Fatalf("P18.4: Pack made %s of %s", short(b), short(before))
		}
		overwrite(b)
		again, errAgain := archive.Pack(before, since)
		wholeAgain, wholeErrAgain := archive.Encode(before)
		if again != text || errAgain != err || wholeAgain != whole || wholeErrAgain != wholeErr {
			t.Fatalf("P18.4: Pack of %s, %d tells %.300q, %d, then %.300q, %d", short(before), since, text, err, again, errAgain)
		}
		if want, wantErr := packOf(before, since); text != want || err != wantErr {
			t.Fatalf("P18.4: what Pack told of %s hangs on what was handed in: %.300q, %d", short(before), text, err)
		}
	}
}

// region is where in memory a list lies.
type region struct{ from, to uintptr }

func versionRegion(l []api.Version) region {
	from := uintptr(unsafe.Pointer(unsafe.SliceData(l)))
	return region{from, from + uintptr(cap(l))*unsafe.Sizeof(api.Version{})}
}

func pairRegion(l []api.Pair) region {
	from := uintptr(unsafe.Pointer(unsafe.SliceData(l)))
	return region{from, from + uintptr(cap(l))*unsafe.Sizeof(api.Pair{})}
}

// regions are those of all lists of a value that have any room.
func regions(b api.Bucket) []region {
	var l []region
	if cap(b.Versions) > 0 {
		l = append(l, versionRegion(b.Versions))
	}
	for _, v := range b.Versions {
		if cap(v.Meta) > 0 {
			l = append(l, pairRegion(v.Meta))
		}
	}
	return l
}

// wantApart: no two of these lie in one another.
func wantApart(t *testing.T, what string, l []region) {
	t.Helper()
	for i, a := range l {
		for _, b := range l[i+1:] {
			if a.from < b.to && b.from < a.to {
				t.Fatalf("P18.4: %s: two lists share memory", what)
			}
		}
	}
}

// TestUnpackMemory: lists that Unpack and Decode answer are new memory, each of
// its own, and grow without touching others.
func TestUnpackMemory(t *testing.T) {
	x := &texter{7}
	for range 500 {
		want, since := x.right(6)
		if x.below(2) == 0 {
			since = 0
		}
		text := partsOf(want, since).text()
		first, _, _ := archive.Unpack(text)
		second, _, _ := archive.Unpack(text)
		third, _ := archive.Decode(text)
		fourth, _ := archive.Decode(text)
		wantApart(t, "Unpack", slices.Concat(regions(first), regions(second), regions(third), regions(fourth)))
		for _, b := range []api.Bucket{first, third} {
			for i := range b.Versions {
				b.Versions[i].Meta = append(b.Versions[i].Meta, pairs("one-more", "", "two-more", "")...)
				for j := i + 1; j < len(b.Versions); j++ {
					if !sameVersion(b.Versions[j], want.Versions[j]) {
						t.Fatalf("P18.4: metadata of version %d grew into version %d", i, j)
					}
				}
			}
			b.Versions = append(b.Versions, gone("one more", 1))
			overwrite(b)
		}
		fifth, fifthSince, err := archive.Unpack(text)
		if !same(second, want) || !same(fifth, want) || fifthSince != since || err != api.OK {
			t.Fatalf("P18.4: behind a change of what was answered Unpack tells %s and %s, want %s", short(second), short(fifth), short(want))
		}
		if since == 0 && !same(fourth, want) {
			t.Fatalf("P18.4: behind a change of what was answered Decode told %s, want %s", short(fourth), short(want))
		}
	}
}

// within: does a text lie in the memory of another?
func within(part, whole string) bool {
	if part == "" || whole == "" {
		return false
	}
	at, from := uintptr(unsafe.Pointer(unsafe.StringData(part))), uintptr(unsafe.Pointer(unsafe.StringData(whole)))
	return at >= from && at < from+uintptr(len(whole))
}

// TestUnpackKeepsNothing: what Unpack answers doesn't keep the text.
func TestUnpackKeepsNothing(t *testing.T) {
	for _, s := range samples() {
		text := partsOf(s.b, s.since).text()
		got, _, err := archive.Unpack(text)
		if err != api.OK {
			t.Errorf("P18.1: Unpack of the archive of %s: %d", s, err)
		}
		for _, v := range got.Versions {
			kept := within(v.Key, text) || within(v.Data, text)
			for _, p := range v.Meta {
				kept = kept || within(p.Name, text) || within(p.Value, text)
			}
			if kept {
				t.Errorf("P18.4: version %q %d of what Unpack answers keeps the text that was handed in", v.Key, v.Seq)
			}
		}
	}
}

// made is how many bytes of memory a call takes.
func made(call func()) uint64 {
	var before, behind runtime.MemStats
	runtime.ReadMemStats(&before)
	call()
	runtime.ReadMemStats(&behind)
	return behind.TotalAlloc - before.TotalAlloc
}

// TestOnlyTold: nothing is made by a number that a text only tells, and great
// texts are soon refused.
func TestOnlyTold(t *testing.T) {
	head := func(count string) []line {
		return []line{{"kind", "full"}, {"format", "coffer-1"}, {"next", "1099511627777"}, {"count", count}}
	}
	item := func(seq int, size string) []line {
		return []line{{"key", "k"}, {"seq", fmt.Sprint(seq)}, {"type", "data"}, {"size", size}, {"leaf", times(64, "0")}}
	}
	end := []line{{"end", "manifest"}}
	tail := []line{{"root", times(64, "0")}, {"length", "1048576"}}
	items := func(n int, size string) (l []line) {
		for i := range n {
			l = append(l, item(i+1, size)...)
		}
		return l
	}
	for i, text := range []string{
		recs(head("9223372036854775807")),
		recs(slices.Concat(head("256"), end, tail)),
		recs(slices.Concat(head("1"), item(1, "1024"), end)),
		recs(slices.Concat(head("1"), item(1, "1024"), end, tail)),
		recs(slices.Concat(head("1"), item(1, "9223372036854775807"), end, tail)),
		recs(slices.Concat(head("1"), item(1, "9223372036854775744"), end, tail)),
		recs(slices.Concat(head("1"), item(1, "-9223372036854775808"), end, tail)),
		recs(slices.Concat(head("62"), items(62, "1024"), end)),
		recs(slices.Concat(head("62"), items(62, "1024"), end, tail)),
		recs(slices.Concat(head("256"), items(256, "1024"), end, tail)),
		recs(slices.Concat(head("256"), items(256, "223"), end, tail)),
		recs(slices.Concat(head("0"), end, []line{{"root", rootOf(nil)}, {"length", "9223372036854775807"}})),
		recs(slices.Concat(head("0"), end, []line{{"root", rootOf(nil)}, {"length", "1048576"}})),
	} {
		wantMalformed(t, fmt.Sprint("told number ", i), text)
		n, reading := made(func() { archive.Unpack(text) }), made(func() { manifest.Read(text) })
		if n > reading+8192 || reading > uint64(40*len(text)+100000) {
			t.Errorf("P18.1: of text %d, which has %d bytes, %d are made, %d of them by the manifest", i, len(text), n, reading)
		}
	}
	great := partsOf(greatBucket(), 0)
	for i, text := range []string{
		great.text() + times(1<<22, "\x00"), times(100, great.text()), recs(great.head) + times(1<<22, "\x00"), great.text()[:len(great.text())-1],
		recs(slices.Concat(head("256"), items(60000, "0"), end, tail)), recs(slices.Concat(head("60000"), items(60000, "0"), end, tail)), times(1<<24, "1"),
	} {
		began := time.Now()
		for range 5 {
			wantMalformed(t, fmt.Sprint("great text ", i), text)
		}
		if took := time.Since(began); took > 10*time.Second {
			t.Errorf("P18.1: great text %d took %v", i, took)
		}
	}
}
