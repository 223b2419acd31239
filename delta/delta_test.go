package delta_test

import (
	"fmt"
	"math/bits"
	"slices"
	"strings"
	"sync"
	"testing"
	"time"

	"coffer/api"
	"coffer/archive"
	"coffer/bucket"
	"coffer/delta"
)

func wantRight(t *testing.T, what string, d api.Delta) {
	t.Helper()
	if got, want := delta.Right(d), rightOf(d); got != want {
		t.Errorf("P19.1: %s: Right(%s) = %v, want %v", what, shortDelta(d), got, want)
	}
}

// wantSince: Since answers as the chapter says; what it tells of a right value
// is right, and laid on what the value was makes the value.
func wantSince(t *testing.T, what string, b api.Bucket, m int64) {
	t.Helper()
	want, wantErr := sinceOf(b, m)
	got, err := delta.Since(b, m)
	if !sameDelta(got, want) || err != wantErr {
		t.Errorf("P19.1: %s: Since(%s, %d) = %s, %d, want %s, %d", what, short(b), m, shortDelta(got), err, shortDelta(want), wantErr)
	}
	if err != api.OK || !valueRight(b) {
		return
	}
	if !rightOf(got) || !delta.Right(got) {
		t.Errorf("P19.4: %s: Since(%s, %d) = %s, which isn't right", what, short(b), m, shortDelta(got))
	}
	if back, err := delta.Apply(olderOf(b, m), got); !same(back, b) || err != api.OK {
		t.Errorf("P19.2: %s: Since(%s, %d) laid on what it was makes %s, %d", what, short(b), m, short(back), err)
	}
}

// wantApply: Apply answers as the chapter says; what it tells is right, and the
// delta laid on it a second time is refused, or changes nothing.
func wantApply(t *testing.T, what string, b api.Bucket, d api.Delta) {
	t.Helper()
	want, wantErr := applyOf(b, d)
	got, err := delta.Apply(b, d)
	if !same(got, want) || err != wantErr {
		t.Errorf("P19.1: %s: Apply(%s, %s) = %s, %d, want %s, %d", what, short(b), shortDelta(d), short(got), err, short(want), wantErr)
	}
	if err != api.OK || !valueRight(b) || !rightOf(d) {
		return
	}
	if !valueRight(got) || !bucket.Right(got) {
		t.Errorf("P19.4: %s: Apply(%s, %s) = %s, which isn't right", what, short(b), shortDelta(d), short(got))
	}
	again, err := delta.Apply(got, d)
	if d.Since == d.Bucket.Next {
		if !same(again, got) || err != api.OK {
			t.Errorf("P19.4: %s: %s laid on %s once more makes %s, %d", what, shortDelta(d), short(got), short(again), err)
		}
	} else if !same(again, api.Bucket{}) || err != api.ErrMarker {
		t.Errorf("P19.4: %s: %s laid on %s a second time makes %s, %d, want nothing, 91", what, shortDelta(d), short(got), short(again), err)
	}
}

// wantEncode: Encode answers as the chapter says, and Decode takes it back.
func wantEncode(t *testing.T, what string, d api.Delta) {
	t.Helper()
	want, wantErr := encodeOf(d)
	got, err := delta.Encode(d)
	if got != want || err != wantErr {
		t.Errorf("P19.1: %s: Encode(%s) = %.600q, %d, want %.600q, %d", what, shortDelta(d), got, err, want, wantErr)
	}
	if err != api.OK {
		return
	}
	if back, err := delta.Decode(got); !sameDelta(back, d) || err != api.OK {
		t.Errorf("P19.5: %s: Decode(Encode(%s)) = %s, %d", what, shortDelta(d), shortDelta(back), err)
	}
}

// wantDecode: Decode answers as the chapter says, and Encode tells the text of
// what it takes. It tells whether it is taken.
func wantDecode(t *testing.T, what, s string) bool {
	t.Helper()
	want, wantErr := decodeOf(s)
	got, err := delta.Decode(s)
	if !sameDelta(got, want) || err != wantErr {
		t.Errorf("P19.1: %s: Decode(%.600q) = %s, %d, want %s, %d", what, s, shortDelta(got), err, shortDelta(want), wantErr)
	}
	if err != api.OK {
		return false
	}
	if again, err := delta.Encode(got); again != s || err != api.OK || !delta.Right(got) {
		t.Errorf("P19.5: %s: Encode(Decode(%.600q)) = %.600q, %d", what, s, again, err)
	}
	return true
}

// wantMalformed: a text is no delta's archive, and nothing is answered beside that.
func wantMalformed(t *testing.T, what, s string) {
	t.Helper()
	if got, err := delta.Decode(s); !sameDelta(got, api.Delta{}) || err != api.ErrMalformed {
		t.Errorf("P19.1: %s: Decode(%.600q) = %s, %d, want nothing, 90", what, s, shortDelta(got), err)
	}
}

// wantWrong: a delta isn't right, and has no archive.
func wantWrong(t *testing.T, what string, d api.Delta) {
	t.Helper()
	if delta.Right(d) {
		t.Errorf("P19.1: %s: Right(%s)", what, shortDelta(d))
	}
	if got, err := delta.Encode(d); got != "" || err != api.ErrArg {
		t.Errorf("P19.1: %s: Encode(%s) = %.600q, %d, want nothing, 1", what, shortDelta(d), got, err)
	}
}

// example is the value of the chapter's examples.
func example() api.Bucket { return of(5, data("a", 1, "x"), gone("a", 4), data("b", 2, "y")) }

// values are right values of all kinds.
func values() map[string]api.Bucket {
	var one, unlike []api.Version
	for i := range 256 {
		v := data("k", int64(3*i+1), "d")
		one = append(one, v)
		// The numbers don't rise with the keys.
		v.Key, v.Seq = fmt.Sprintf("k%03d", i), int64(i*37%256+1)
		unlike = append(unlike, v)
	}
	return map[string]api.Bucket{
		"the example":          example(),
		"empty":                of(1),
		"all removed":          of(9),
		"all removed, at last": of(maxNext),
		"a marker alone":       of(2, gone("k", 1)),
		"markers alone":        of(9, gone("a", 3), gone("a", 8), gone("ab", 1), gone("b", 5)),
		"one version":          of(2, data("k", 1, "")),
		"one of the last":      of(maxNext, data("k", maxNext-1, "last")),
		"first and last":       of(maxNext, data("a", maxNext-1, "last"), data("b", 1, "first", pairs("m", "v")...)),
		"keys begin others":    of(9, data("\x00", 6, ""), data("a", 5, "x"), data("a\x00", 4, "y"), data("a\x00a", 3, "z"), data("ab", 2, ""), data("b", 1, "\x00")),
		"as many as may be":    of(999, one...),
		"as many keys":         of(257, unlike...),
		"as many bytes":        of(257, list(256, "k", 1, 256)...),
		"much metadata":        of(9, data("k", 2, times(1024, "d"), pairs("-", times(64, "v"), "0", "", "a", "=", "ab", "\n", "b", "", "c", "", "d", "", "sixteen-letters-", times(64, "\x00"))...), gone("k", 5), data("k", 7, "", pairs("a", "")...)),
	}
}

// around are the numbers at which something may change in what a value has since.
func around(b api.Bucket) []int64 {
	l := []int64{least, least + 1, -maxNext, -1, 0, 1, 2, b.Next - 1, b.Next, b.Next + 1, maxNext - 1, maxNext, maxNext + 1, greatest}
	for _, v := range b.Versions {
		l = append(l, v.Seq-1, v.Seq, v.Seq+1)
	}
	slices.Sort(l)
	return slices.Compact(l)
}

// faults are what makes a version of a value wrong whose Next is 9.
func faults() []func(v *api.Version) {
	var many []api.Pair
	for i := range 9 {
		many = append(many, api.Pair{Name: fmt.Sprint("n", i)})
	}
	return []func(v *api.Version){
		func(v *api.Version) { v.Key = "" },
		func(v *api.Version) { v.Key = times(33, "z") },
		func(v *api.Version) { v.Seq = 0 },
		func(v *api.Version) { v.Seq = least },
		func(v *api.Version) { v.Seq = 9 },
		func(v *api.Version) { v.Seq = maxNext },
		func(v *api.Version) { v.Seq = greatest },
		func(v *api.Version) { v.Data, v.Marker = times(1025, "d"), false },
		func(v *api.Version) { v.Marker, v.Data = true, "\x00" },
		func(v *api.Version) { v.Marker, v.Data, v.Meta = true, "", pairs("a", "") },
		func(v *api.Version) { v.Marker, v.Meta = false, pairs("b", "", "a", "") },
		func(v *api.Version) { v.Marker, v.Meta = false, pairs("a", "", "a", "") },
		func(v *api.Version) { v.Marker, v.Meta = false, many },
		func(v *api.Version) { v.Marker, v.Meta = false, pairs("a", times(65, "v")) },
		func(v *api.Version) { v.Marker, v.Meta = false, pairs("A", "") },
		func(v *api.Version) { v.Marker, v.Meta = false, pairs("", "") },
		func(v *api.Version) { v.Marker, v.Meta = false, pairs(times(17, "n"), "") },
	}
}

// wrongBuckets are values that aren't right; where it isn't the numbers that are
// wrong they are 3 or above, so that a Since of 3 would do.
func wrongBuckets() []api.Bucket {
	var l []api.Bucket
	for _, f := range faults() {
		for at := range 3 {
			b := of(9, data("a", 5, ""), data("b", 3, "x"), gone("b", 4))
			f(&b.Versions[at])
			l = append(l, b)
		}
	}
	for _, versions := range [][]api.Version{
		{gone("b", 3), gone("a", 4)}, {data("a", 4, "x"), data("a", 3, "y")}, {gone("a", 3), gone("a", 3)}, {gone("a", 3), gone("b", 3)}, {data("ab", 3, ""), data("a", 4, "")}, {gone("a", 5), gone("b", 4), gone("c", 5)},
	} {
		l = append(l, of(9, versions...))
	}
	great := list(256, "k", 3, 256)
	great[255].Data += "d"
	return append(l, of(maxNext+1), of(greatest), of(999, list(257, "k", 3, 33)...), of(999, great...))
}

func TestExamples(t *testing.T) {
	v, u := example(), of(3, data("a", 1, "x"), data("b", 2, "y"))
	for _, c := range []struct {
		m    int64
		want api.Delta
		err  api.Errno
	}{{3, since(3, 5, gone("a", 4)), 0}, {1, since(1, 5, v.Versions...), 0}, {5, since(5, 5), 0}, {0, api.Delta{}, 1}, {6, api.Delta{}, 1}} {
		if got, err := delta.Since(v, c.m); !sameDelta(got, c.want) || err != c.err {
			t.Errorf("P19.1: example 1: Since(v, %d) = %s, %d", c.m, shortDelta(got), err)
		}
	}
	for i, c := range []struct {
		b    api.Bucket
		d    api.Delta
		want api.Bucket
		err  api.Errno
	}{
		{u, since(3, 5, gone("a", 4)), v, 0}, {v, since(3, 5, gone("a", 4)), api.Bucket{}, 91}, {u, since(2, 5, gone("a", 4), data("b", 2, "y")), api.Bucket{}, 91}, {v, since(5, 5), v, 0},
		{of(1), since(1, 1), of(1), 0}, {of(1), since(1, 9), of(9), 0},
	} {
		if got, err := delta.Apply(c.b, c.d); !same(got, c.want) || err != c.err {
			t.Errorf("P19.1: examples 2 and 3, row %d: %s, %d", i, short(got), err)
		}
	}
	for _, d := range []api.Delta{since(0, 5), since(6, 5), since(3, 5, data("b", 2, "y"))} {
		wantWrong(t, "example 3", d)
	}
	if !delta.Right(since(1, 1)) {
		t.Error("P19.1: example 3: Right({1, Next 1}) is false")
	}
	full, _ := archive.Encode(v)
	wantMalformed(t, "example 4", "")
	wantMalformed(t, "example 4", full)
	d, _ := delta.Since(v, 3)
	s, err := delta.Encode(d)
	back, backErr := delta.Decode(s)
	if !sameDelta(back, since(3, 5, gone("a", 4))) || err != api.OK || backErr != api.OK {
		t.Errorf("P19.5: example 4: %s, %d, %d", shortDelta(back), err, backErr)
	}
}

// TestSince: each number around those of each value, and values of all kinds.
func TestSince(t *testing.T) {
	for what, b := range values() {
		for _, m := range around(b) {
			wantSince(t, what, b, m)
		}
	}
	x := &texter{1}
	for range 500 {
		b := x.value(9)
		for _, m := range around(b) {
			wantSince(t, "some value", b, m)
		}
	}
}

// TestRight: Since below, at and above what it may be, with versions one below
// it, at it and above it.
func TestRight(t *testing.T) {
	for what, b := range values() {
		for _, m := range around(b) {
			wantRight(t, what, api.Delta{Since: m, Bucket: b})
			if d, err := delta.Since(b, m); err == api.OK {
				wantRight(t, what, d)
			}
		}
	}
	for _, m := range []int64{least, -1, 0, 1, 2, 3, 4, 5, 6, 7, 9, greatest} {
		for seq := int64(-1); seq < 8; seq++ {
			wantRight(t, "one version", since(m, 6, data("k", seq, "x")))
			wantRight(t, "one marker", since(m, 6, gone("k", seq)))
			wantRight(t, "the first of two", since(m, 6, data("a", seq, ""), data("b", 5, "")))
			wantRight(t, "the last of two", since(m, 6, data("a", 5, ""), data("b", seq, "")))
		}
		for next := int64(-1); next < 8; next++ {
			wantRight(t, "none", since(m, next))
		}
	}
	for _, c := range []struct {
		d    api.Delta
		want bool
	}{
		{since(0, 5), false}, {since(1, 5), true}, {since(5, 5), true}, {since(6, 5), false}, {since(maxNext, maxNext), true}, {since(maxNext+1, maxNext+1), false}, {since(0, 0), false}, {since(1, 0), false}, {since(-1, 5), false},
		{since(3, 5, gone("k", 2)), false}, {since(3, 5, gone("k", 3)), true}, {since(3, 5, gone("k", 4)), true}, {since(3, 5, gone("k", 5)), false}, {since(5, 5, gone("k", 4)), false}, {since(5, 5, gone("k", 5)), false},
		{since(0, 5, gone("k", 4)), false}, {since(1, 5, gone("k", 1)), true},
	} {
		if got := delta.Right(c.d); got != c.want {
			t.Errorf("P19.1: Right(%s) = %v", shortDelta(c.d), got)
		}
		wantEncode(t, "a row", c.d)
	}
}

// TestWrongBuckets: of a delta whose Bucket isn't right, whatever its Since is.
func TestWrongBuckets(t *testing.T) {
	for _, b := range wrongBuckets() {
		for _, m := range []int64{least, 0, 1, 2, 3, 9, b.Next} {
			wantWrong(t, "a wrong bucket", api.Delta{Since: m, Bucket: b})
		}
	}
	if !delta.Right(since(3, 9, data("a", 5, ""), data("b", 3, "x"), gone("b", 4))) {
		t.Error("P19.1: without its faults the delta isn't right either")
	}
}

// TestApplyMarker: a Since one below the value's Next, at it and one above, and
// far from it.
func TestApplyMarker(t *testing.T) {
	for what, b := range values() {
		for _, m := range []int64{1, b.Next - 1, b.Next, b.Next + 1, maxNext - 2, maxNext} {
			if m < 1 || m > maxNext {
				continue
			}
			wantApply(t, what+", and none", b, since(m, m))
			if m < maxNext {
				wantApply(t, what+", and a marker", b, since(m, m+1, gone("k", m)))
				wantApply(t, what+", and none, Next moved", b, since(m, maxNext))
			}
			if m < maxNext-2 {
				wantApply(t, what+", and two", b, since(m, m+3, data("a", m+1, "new"), data("z", m, "", pairs("n", "v")...)))
			}
		}
	}
	for next := int64(1); next < 6; next++ {
		for m := int64(1); m < 6; m++ {
			got, err := delta.Apply(of(next), since(m, 9))
			if m == next && (!same(got, of(9)) || err != api.OK) || m != next && (!same(got, api.Bucket{}) || err != api.ErrMarker) {
				t.Errorf("P19.4: Apply({Next %d}, {%d, Next 9}) = %s, %d", next, m, short(got), err)
			}
		}
	}
}

// TestSecondTime: a delta is laid on once, with versions and without, unless its
// Since is its Next.
func TestSecondTime(t *testing.T) {
	b := of(3, data("a", 1, "x"), data("b", 2, "y"))
	for _, c := range []struct {
		d     api.Delta
		want  api.Bucket
		twice api.Errno
	}{
		{since(3, 4, gone("a", 3)), of(4, data("a", 1, "x"), gone("a", 3), data("b", 2, "y")), 91},
		{since(3, 9, data("c", 8, "z")), of(9, data("a", 1, "x"), data("b", 2, "y"), data("c", 8, "z")), 91},
		{since(3, 4), of(4, data("a", 1, "x"), data("b", 2, "y")), 91},
		{since(3, maxNext), of(maxNext, data("a", 1, "x"), data("b", 2, "y")), 91},
		{since(3, 3), b, 0},
	} {
		once, err := delta.Apply(b, c.d)
		if !same(once, c.want) || err != api.OK {
			t.Errorf("P19.1: Apply(b, %s) = %s, %d", shortDelta(c.d), short(once), err)
		}
		twice, err := delta.Apply(once, c.d)
		if err != c.twice || err == api.OK && !same(twice, once) || err != api.OK && !same(twice, api.Bucket{}) {
			t.Errorf("P19.4: %s a second time: %s, %d, want %d", shortDelta(c.d), short(twice), err, c.twice)
		}
	}
}

// TestCounts: both together have as many versions as may be, and one more.
func TestCounts(t *testing.T) {
	for _, n := range []int{0, 1, 2, 127, 128, 129, 254, 255, 256} {
		for _, sum := range []int{255, 256, 257, 258, 512} {
			more := min(sum-n, 256)
			if more < 0 {
				continue
			}
			next := int64(n) + 1
			b := of(next, list(n, "k", 1, 33)...)
			for _, key := range []string{"a", "k", "z"} {
				d := since(next, next+int64(more), list(more, key, next, 33)...)
				got, err := delta.Apply(b, d)
				if n+more <= 256 && (err != api.OK || len(got.Versions) != n+more || got.Next != d.Bucket.Next) || n+more > 256 && (err != api.ErrCount || !same(got, api.Bucket{})) {
					t.Errorf("P19.1: %d and %d versions: %s, %d", n, more, short(got), err)
				}
				wantApply(t, "so many", b, d)
				wantEncode(t, "so many", d)
			}
		}
	}
}

// TestBytes: the sizes are together at the limit, and one above, wherever that
// byte is.
func TestBytes(t *testing.T) {
	last := []api.Version{data("z", 256, times(223, "d")), data(times(32, "z"), 256, times(192, "d")), data("z", 256, times(220, "d"), pairs("n", "vv")...), data("z", 256, times(223-79, "d"), pairs(times(15, "n"), times(63, "v"), "z", "")...)}
	grow := []func(v *api.Version){
		func(v *api.Version) { v.Data += "d" },
		func(v *api.Version) { v.Key += "z" },
		func(v *api.Version) { v.Meta = append(slices.Clone(v.Meta), api.Pair{Name: "zz"}) },
		func(v *api.Version) { v.Meta = slices.Clone(v.Meta); v.Meta[0].Name += "n" },
		func(v *api.Version) { v.Meta = slices.Clone(v.Meta); v.Meta[0].Value += "v" },
	}
	b := of(256, list(255, "k", 1, 256)...)
	for _, v := range last {
		got, err := delta.Apply(b, since(256, 257, v))
		if err != api.OK || sizeOf(got.Versions) != 65536 {
			t.Errorf("P19.1: at the limit: %s, %d", short(got), err)
		}
		wantApply(t, "at the limit", b, since(256, 257, v))
		for i, f := range grow {
			if i > 2 && len(v.Meta) == 0 || i == 1 && len(v.Key) == 32 {
				continue
			}
			w := v
			f(&w)
			if !rightOf(since(256, 257, w)) {
				t.Fatalf("growth %d makes a delta wrong", i)
			}
			if got, err := delta.Apply(b, since(256, 257, w)); !same(got, api.Bucket{}) || err != api.ErrBytes {
				t.Errorf("P19.1: growth %d above the limit: %s, %d, want nothing, 76", i, short(got), err)
			}
		}
	}
	// The byte too many may stand in the value, and either side may be all of it.
	for _, n := range []int{0, 1, 31, 32, 62, 63, 64} {
		for more := range 2 {
			next := int64(n) + 1
			l, m := list(n, "k", 1, 1024), list(64-n, "a", next, 1024)
			if more == 1 && n > 0 {
				l[n/2].Data += "d"
			}
			wantApply(t, "64 great ones", of(next, l...), since(next, 65, m...))
			if more == 1 && n < 64 {
				m[0].Data += "d"
			}
			wantApply(t, "64 great ones", of(next, l...), since(next, 65, m...))
			wantApply(t, "64 great ones and none", of(next, l...), since(next, next))
		}
	}
}

// TestFirstError: where several errors would be, ErrMarker is told ahead of
// ErrCount, and that ahead of ErrBytes.
func TestFirstError(t *testing.T) {
	full := of(257, list(256, "k", 1, 256)...)  // no version and no byte more
	many := of(257, list(256, "k", 1, 33)...)   // no version more
	great := of(65, list(64, "k", 1, 1024)...)  // no byte more
	great2 := of(65, list(63, "k", 1, 1024)...) // few bytes more
	for _, c := range []struct {
		what string
		b    api.Bucket
		d    api.Delta
		want api.Errno
	}{
		{"marker, count, bytes", full, since(258, 259, gone("k", 258)), 91},
		{"marker, count, bytes", full, since(256, 258, gone("k", 257)), 91},
		{"marker, count, bytes", full, since(1, 257, list(256, "k", 1, 256)...), 91},
		{"count, bytes", full, since(257, 258, gone("k", 257)), 75},
		{"count, bytes", full, since(257, 999, list(256, "k", 257, 256)...), 75},
		{"none", full, since(257, 999), 0},
		{"marker, count", many, since(258, 259, gone("k", 258)), 91},
		{"count", many, since(257, 258, gone("k", 257)), 75},
		{"count, bytes", many, since(257, 999, list(64, "k", 257, 1024)...), 75},
		{"marker, bytes", great, since(64, 66, gone("k", 65)), 91},
		{"bytes", great, since(65, 66, gone("k", 65)), 76},
		{"count, bytes", great, since(65, 999, list(193, "k", 65, 33)...), 75},
		{"bytes", great, since(65, 999, list(192, "k", 65, 33)...), 76},
		{"bytes", great2, since(65, 999, list(2, "k", 65, 600)...), 76},
		{"none", great2, since(65, 999, list(1, "k", 65, 1024)...), 0},
	} {
		if !valueRight(c.b) || !rightOf(c.d) {
			t.Fatalf("%s: the value or the delta isn't right", c.what)
		}
		if _, err := delta.Apply(c.b, c.d); err != c.want {
			t.Errorf("P19.1: %s: %d, want %d", c.what, err, c.want)
		}
		wantApply(t, c.what, c.b, c.d)
	}
}

// TestKeys: versions of one key on both sides, keys on one side alone, keys that
// begin others: each set of some keys on the one side with each on the other.
func TestKeys(t *testing.T) {
	names := []string{"\x00", "a", "a\x00", "ab", "b"}
	n := len(names)
	for sides := range 1 << (2 * n) {
		b, d := of(int64(n)+1), since(int64(n)+1, 2*int64(n)+1)
		for i, name := range names {
			// The numbers fall where the keys rise.
			if sides>>i&1 == 1 {
				b.Versions = append(b.Versions, data(name, int64(n-i), fmt.Sprint("old", i)))
			}
			if sides>>(n+i)&1 == 1 {
				d.Bucket.Versions = append(d.Bucket.Versions, data(name, int64(2*n-i), fmt.Sprint("new", i), pairs("n", name)...))
			}
		}
		wantApply(t, "keys", b, d)
	}
	b := of(9, data("a", 3, "1"), data("a", 7, "2"), data("b", 5, "3"))
	d := since(9, 14, data("a", 10, "4"), gone("a", 12), data("a\x00", 9, "5"), data("b", 11, "6"), data("c", 13, "7"))
	want := of(14, data("a", 3, "1"), data("a", 7, "2"), data("a", 10, "4"), gone("a", 12), data("a\x00", 9, "5"), data("b", 5, "3"), data("b", 11, "6"), data("c", 13, "7"))
	if got, err := delta.Apply(b, d); !same(got, want) || err != api.OK {
		t.Errorf("P19.1: Apply(%s, %s) = %s, %d", short(b), shortDelta(d), short(got), err)
	}
}

// TestApplySome: values and deltas that have nothing to do with one another, but
// that the one begins where the other ends.
func TestApplySome(t *testing.T) {
	x := &texter{2}
	for range 3000 {
		b, d := x.value(9), x.right(9)
		wantApply(t, "any two", b, d)
		b.Next = d.Since
		b.Versions = nil
		for _, v := range x.value(9).Versions {
			if v.Seq < b.Next {
				b.Versions = append(b.Versions, v)
			}
		}
		wantApply(t, "one behind the other", b, d)
	}
}

// wantSteps: in one step and in two, over archives, for each m and n.
func wantSteps(t *testing.T, what string, v api.Bucket) {
	t.Helper()
	for n := int64(1); n <= v.Next; n++ {
		then := olderOf(v, n)
		for m := int64(1); m <= n; m++ {
			u := olderOf(v, m)
			one := laid(t, u, v, m)
			two := laid(t, laid(t, u, then, m), v, n)
			if !same(one, two) || !same(one, v) {
				t.Fatalf("P19.3: %s: %s since %d: in one step %s, by way of %d %s", what, short(v), m, short(one), n, short(two))
			}
		}
	}
}

// laid is what a value has from a number on laid on another, by an archive.
func laid(t *testing.T, u, v api.Bucket, m int64) api.Bucket {
	t.Helper()
	d, sinceErr := delta.Since(v, m)
	s, encodeErr := delta.Encode(d)
	back, decodeErr := delta.Decode(s)
	got, err := delta.Apply(u, back)
	direct, directErr := delta.Apply(u, d)
	if sinceErr != api.OK || encodeErr != api.OK || decodeErr != api.OK || err != api.OK || directErr != api.OK || !same(got, direct) {
		t.Fatalf("P19.2: %s since %d, laid on %s: %d, %d, %d, %d, %d", short(v), m, short(u), sinceErr, encodeErr, decodeErr, err, directErr)
	}
	return got
}

func TestSteps(t *testing.T) {
	wantSteps(t, "the example", example())
	for what, b := range values() {
		if b.Next < 20 {
			wantSteps(t, what, b)
		}
	}
	x := &texter{3}
	for range 60 {
		if b := x.value(9); b.Next < 30 {
			wantSteps(t, "some value", b)
		}
	}
	// Every value with three numbers, each removed, or of one of two keys.
	for kinds := range 64 {
		b := of(4)
		for seq := range int64(3) {
			switch kinds >> (2 * seq) & 3 {
			case 1:
				b.Versions = append(b.Versions, data("a", seq+1, "x"))
			case 2:
				b.Versions = append(b.Versions, gone("a", seq+1))
			case 3:
				b.Versions = append(b.Versions, data("ab", seq+1, "y", pairs("m", "v")...))
			}
		}
		b.Versions = inOrder(b.Versions)
		wantSteps(t, "a small value", b)
	}
	// Of great values some steps.
	for what, b := range values() {
		l := around(b)
		for range 30 {
			m, n := l[x.below(len(l))], l[x.below(len(l))]
			if m < 1 || m > n || n > b.Next {
				continue
			}
			u := olderOf(b, m)
			if one, two := laid(t, u, b, m), laid(t, laid(t, u, olderOf(b, n), m), b, n); !same(one, two) || !same(one, b) {
				t.Errorf("P19.3: %s: in one step since %d %s, by way of %d %s", what, m, short(one), n, short(two))
			}
		}
	}
}

// TestWalk: what a bucket becomes by puts and deletes is made from each value
// that it had, if no version below was removed since.
func TestWalk(t *testing.T) {
	x := &texter{4}
	for range 30 {
		b := bucket.New()
		was := []api.Bucket{b}
		for range 20 {
			key := keys[x.below(len(keys))]
			if x.below(3) == 0 {
				b, _, _ = bucket.Delete(b, key)
			} else {
				b, _, _ = bucket.Put(b, key, x.text(x.below(50)), x.meta())
			}
			was = append(was, b)
		}
		// Versions above the number may be removed.
		last := b.Next - 1
		for _, v := range b.Versions {
			if v.Seq == last {
				b, _ = bucket.DeleteVersion(b, v.Key, v.Seq)
			}
		}
		for _, u := range was {
			if u.Next > last {
				continue
			}
			if got := laid(t, u, b, u.Next); !same(got, b) {
				t.Fatalf("P19.2: %s since %d, laid on what it was, makes %s", short(b), u.Next, short(got))
			}
		}
	}
}

// TestEncode: deltas that are right and aren't; one whole text, by hand.
func TestEncode(t *testing.T) {
	want := "14 kind=delta\n19 format=coffer-1\n9 next=5\n11 since=2\n11 count=0\n16 end=manifest\n73 root=dbc1b4c900ffe48d575b5da5c638040125f65db0fe3e24494b76ea986457d986\n13 length=80\n"
	if got, err := delta.Encode(since(2, 5)); got != want || err != api.OK {
		t.Errorf("P19.1: Encode({2, Next 5}) = %q, %d, want %q", got, err, want)
	}
	if got, err := delta.Decode(want); !sameDelta(got, since(2, 5)) || err != api.OK {
		t.Errorf("P19.1: Decode(%q) = %s, %d", want, shortDelta(got), err)
	}
	// What a whole bucket's archive takes with the number 0 is no delta.
	wantWrong(t, "the number 0", api.Delta{Since: 0, Bucket: example()})
	wantWrong(t, "the zero delta", api.Delta{})
	for what, b := range values() {
		for _, m := range around(b) {
			wantEncode(t, what, api.Delta{Since: m, Bucket: b})
			if d, err := delta.Since(b, m); err == api.OK {
				wantEncode(t, what, d)
			}
		}
	}
	x := &texter{5}
	refused := 0
	for range 3000 {
		d := x.any(6)
		wantRight(t, "some delta", d)
		wantEncode(t, "some delta", d)
		if !rightOf(d) {
			refused++
		}
	}
	if refused < 500 || refused > 2500 {
		t.Errorf("of 3000 deltas %d aren't right", refused)
	}
}

// samples are right deltas of all kinds, and not great.
func samples() []api.Delta {
	return []api.Delta{
		since(5, 5),
		since(1, 1),
		since(maxNext, maxNext),
		since(1, maxNext),
		since(3, 5, gone("a", 4)),
		since(2, 5, gone("a", 4), data("b", 2, "y", pairs("m", "v")...)),
		since(7, 9, data("\n=\x00", 8, ""), data("\n=\x00=", 7, times(65, "="), pairs("-", "=\n", "a", "", "ab", "7 end=\n")...)),
	}
}

// TestDecode: a delta's archive cut short at each byte, without its beginning,
// and with anything behind it; and the archive of a whole bucket.
func TestDecode(t *testing.T) {
	wantMalformed(t, "nothing", "")
	for what, b := range values() {
		full, err := archive.Encode(b)
		if err != api.OK {
			t.Fatalf("%s: archive's Encode: %d", what, err)
		}
		wantMalformed(t, "a full archive of "+what, full)
		wantMalformed(t, "a full archive told to be a delta's", strings.Replace(full, "13 kind=full\n", "14 kind=delta\n", 1))
		if _, err := archive.Decode(full); err != api.OK {
			t.Errorf("%s: the full archive is none: %d", what, err)
		}
	}
	for _, d := range samples() {
		text, err := delta.Encode(d)
		if err != api.OK || !wantDecode(t, "as it is", text) {
			t.Fatalf("P19.5: the archive of %s: %d, or it is not taken", shortDelta(d), err)
		}
		if _, err := archive.Decode(text); err != api.ErrMalformed {
			t.Errorf("the archive of %s is that of a whole bucket: %d", shortDelta(d), err)
		}
		for at := range len(text) {
			wantMalformed(t, fmt.Sprint("cut at ", at), text[:at])
			if at > 0 {
				wantMalformed(t, fmt.Sprint("from ", at, " on"), text[at:])
			}
		}
		for c := range 256 {
			wantMalformed(t, "a byte behind it", text+string([]byte{byte(c)}))
			wantMalformed(t, "a byte ahead of it", string([]byte{byte(c)})+text)
		}
		for _, behind := range []string{"\x00\x00", times(64, "\x00"), text, "11 since=1\n", "13 length=68\n", "trailing"} {
			wantMalformed(t, fmt.Sprintf("%q behind it", behind), text+behind)
		}
		for _, other := range []string{"0", "00", "-1", "+1", "01", "", " 1", "1 ", "x", "1099511627778", "9223372036854775808", "18446744073709551617"} {
			record := fmt.Sprintf("%d since=%d\n", len(fmt.Sprint(d.Since))+10, d.Since)
			if n := strings.Count(text, record); n != 1 {
				t.Fatalf("%q stands %d times in %q", record, n, text)
			}
			wantMalformed(t, fmt.Sprintf("since %q", other), strings.Replace(text, record, fmt.Sprintf("%d since=%s\n", len(other)+10, other), 1))
			wantMalformed(t, "no since", strings.Replace(text, record, "", 1))
		}
	}
}

// TestEveryByte: each byte turned, at each place: of the first text each byte
// made each other one, of the others each bit turned.
func TestEveryByte(t *testing.T) {
	taken := 0
	for i, d := range samples() {
		text, _ := delta.Encode(d)
		for at := range len(text) {
			for c := range 256 {
				bit := bits.OnesCount8(text[at]^byte(c)) == 1
				if i > 0 && !bit && strings.IndexByte("\x00\xff 019=\naf", byte(c)) < 0 {
					continue
				}
				if wantDecode(t, fmt.Sprint("byte ", at, " made ", c), text[:at]+string([]byte{byte(c)})+text[at+1:]) && text[at] != byte(c) {
					taken++
				}
			}
			wantDecode(t, fmt.Sprint("without byte ", at), text[:at]+text[at+1:])
		}
	}
	// Another Since is another delta, whose archive differs in that digit alone.
	if taken == 0 {
		t.Error("of the changed texts none is another delta's archive")
	}
}

// TestNotRight: of values and deltas that aren't right each call ends, none
// panics, and with an error there is nothing else.
func TestNotRight(t *testing.T) {
	x := &texter{6}
	var all []api.Delta
	for _, b := range wrongBuckets() {
		for _, m := range []int64{least, 0, 1, 3, b.Next, greatest} {
			all = append(all, api.Delta{Since: m, Bucket: b})
		}
	}
	for _, n := range []int64{least, -1, 0, 1, maxNext + 1, greatest} {
		all = append(all, since(n, n), since(n, n, gone("k", n)), since(n, n, api.Version{}, api.Version{}), since(0, n, data("b", n, ""), data("a", n, "")))
	}
	for range 2000 {
		all = append(all, x.any(7))
	}
	for _, d := range all {
		other := all[x.below(len(all))]
		b := api.Bucket{Next: d.Since, Versions: other.Bucket.Versions}
		wantRight(t, "some delta", d)
		wantEncode(t, "some delta", d)
		for _, value := range []api.Bucket{b, other.Bucket, d.Bucket} {
			wantEnds(t, value, d)
		}
	}
}

func wantEnds(t *testing.T, b api.Bucket, d api.Delta) {
	t.Helper()
	for _, m := range []int64{least, -1, 0, 1, 2, d.Since, b.Next, greatest} {
		if got, err := delta.Since(b, m); err != api.OK && !sameDelta(got, api.Delta{}) {
			t.Errorf("P19.1: Since(%s, %d) = %s, %d", short(b), m, shortDelta(got), err)
		}
	}
	got, err := delta.Apply(b, d)
	again, errAgain := delta.Apply(b, d)
	if err != api.OK && !same(got, api.Bucket{}) || !same(got, again) || err != errAgain {
		t.Errorf("P19.1: Apply(%s, %s) = %s, %d, then %s, %d", short(b), shortDelta(d), short(got), err, short(again), errAgain)
	}
}

// TestGreat: what is far too great is told soon.
func TestGreat(t *testing.T) {
	long := times(1<<20, "x")
	many := make([]api.Version, 1<<18)
	for i := range many {
		many[i] = api.Version{Key: long, Seq: int64(len(many) - i), Data: long, Meta: []api.Pair{{Name: long, Value: long}}}
	}
	wide := make([]api.Pair, 1<<20)
	for i := range wide {
		wide[i] = api.Pair{Name: long, Value: long}
	}
	text, _ := delta.Encode(since(1, maxNext, list(256, "k", 1, 256)...))
	began := time.Now()
	for _, b := range []api.Bucket{of(1, many...), of(greatest, many...), of(1, api.Version{Key: "k", Meta: wide}), of(9, data("k", 1, long, wide...), data("k", 1, long, wide...)), {Next: 1, Versions: make([]api.Version, 1<<20)}} {
		wantEnds(t, b, since(b.Next, b.Next))
		wantEnds(t, of(7), api.Delta{Since: 7, Bucket: b})
		wantEnds(t, b, api.Delta{Since: b.Next, Bucket: b})
		wantWrong(t, "great", api.Delta{Since: 1, Bucket: b})
	}
	wantMalformed(t, "a great text", text+times(1<<24, "\x00"))
	wantMalformed(t, "a great text", times(1<<24, "1"))
	if took := time.Since(began); took > 60*time.Second {
		t.Errorf("P19.1: what is too great took %v", took)
	}
}

// TestBeside: many beside one another, on the same values, tell what one alone tells.
func TestBeside(t *testing.T) {
	x := &texter{7}
	var all []api.Delta
	for range 40 {
		all = append(all, x.any(9))
	}
	var together sync.WaitGroup
	for range 8 {
		together.Go(func() {
			for _, d := range all {
				wantRight(t, "beside others", d)
				wantEncode(t, "beside others", d)
				if valueRight(d.Bucket) {
					wantSince(t, "beside others", d.Bucket, d.Since)
					wantApply(t, "beside others", d.Bucket, since(d.Bucket.Next, d.Bucket.Next))
				}
			}
		})
	}
	together.Wait()
}
