package stack_test

import (
	"cmp"
	"fmt"
	"math"
	"slices"
	"strings"
	"sync"
	"testing"
	"unsafe"

	"coffer/api"
	"coffer/stack"
)

const (
	least    = math.MinInt64
	greatest = math.MaxInt64
)

// texter tells numbers and texts that look like chance and are the same each time.
type texter struct{ x uint64 }

func (t *texter) number() uint64 {
	t.x += 0x9e3779b97f4a7c15
	z := t.x
	z = (z ^ z>>30) * 0xbf58476d1ce4e5b9
	z = (z ^ z>>27) * 0x94d049bb133111eb
	return z ^ z>>31
}

func (t *texter) below(n int) int { return int(t.number() % uint64(n)) }

// text has n bytes of all kinds.
func (t *texter) text(n int) string {
	b := make([]byte, n)
	for i := range b {
		b[i] = byte(t.number())
	}
	return string(b)
}

// seq is any number, a small one as often as an edge or a great one.
func (t *texter) seq() int64 {
	switch t.below(4) {
	case 0:
		return []int64{least, least + 1, -1, 0, 1, api.MaxSeq, api.MaxSeq + 1, greatest - 1, greatest}[t.below(9)]
	case 1:
		return int64(t.number())
	}
	return int64(t.below(12)) - 3
}

// version has a key and a number, and else anything, limits or not.
func (t *texter) version(key string, seq int64) api.Version {
	v := api.Version{Key: key, Seq: seq, Marker: t.below(3) == 0}
	if t.below(3) > 0 {
		v.Data = t.text(t.below(20))
	}
	for range t.below(4) {
		v.Meta = append(v.Meta, api.Pair{Name: t.text(t.below(3)), Value: t.text(t.below(5))})
	}
	return v
}

// right is a right stack of n versions; the first of its numbers is small.
func (t *texter) right(n int) []api.Version {
	key := t.text(t.below(4))
	var l []api.Version
	seq := int64(0)
	for range n {
		seq += 1 + int64(t.below(4))
		l = append(l, t.version(key, seq))
	}
	return l
}

// any is a list of n versions, of few keys, in no order.
func (t *texter) any(n int) []api.Version {
	var l []api.Version
	for range n {
		l = append(l, t.version([]string{"", "j", "k"}[t.below(3)], t.seq()))
	}
	return l
}

func list(l ...api.Version) []api.Version { return l }

// k is a version of the key "k".
func k(seq int64) api.Version {
	return api.Version{Key: "k", Seq: seq, Data: fmt.Sprint(seq), Meta: []api.Pair{{Name: "n", Value: fmt.Sprint(seq)}}}
}

// gone is a marker of the key "k".
func gone(seq int64) api.Version { return api.Version{Key: "k", Seq: seq, Marker: true} }

// of is a version of another key.
func of(key string, seq int64) api.Version { return api.Version{Key: key, Seq: seq, Data: "of " + key} }

// ks are versions of the key "k" with these numbers.
func ks(seqs ...int64) []api.Version {
	var l []api.Version
	for _, n := range seqs {
		l = append(l, k(n))
	}
	return l
}

func same(a, b api.Version) bool {
	return a.Key == b.Key && a.Seq == b.Seq && a.Marker == b.Marker && a.Data == b.Data && slices.Equal(a.Meta, b.Meta)
}

func sameAll(a, b []api.Version) bool { return slices.EqualFunc(a, b, same) }

// isRight: the chapter's right stack.
func isRight(l []api.Version) bool {
	for i, v := range l {
		if v.Key != l[0].Key || v.Seq <= 0 || i > 0 && l[i-1].Seq >= v.Seq {
			return false
		}
	}
	return true
}

// The chapter's calls, by its words.

func pushOf(l []api.Version, v api.Version) ([]api.Version, api.Errno) {
	n := len(l)
	switch {
	case n > 0 && l[n-1].Key != v.Key:
		return nil, 61
	case v.Seq < 1:
		return nil, 74
	case n > 0 && !(v.Seq > l[n-1].Seq):
		return nil, 74
	}
	return slices.Concat(l, list(v)), 0
}

func topOf(l []api.Version) (api.Version, api.Errno) {
	switch n := len(l); {
	case n == 0:
		return api.Version{}, 72
	case l[n-1].Marker:
		return api.Version{}, 73
	default:
		return l[n-1], 0
	}
}

func getOf(l []api.Version, seq int64) (api.Version, api.Errno) {
	for _, v := range l {
		if v.Seq == seq {
			return v, 0
		}
	}
	return api.Version{}, 72
}

func removeOf(l []api.Version, seq int64) ([]api.Version, api.Errno) {
	for i, v := range l {
		if v.Seq == seq {
			return slices.Concat(l[:i], l[i+1:]), 0
		}
	}
	return nil, 72
}

func sinceOf(l []api.Version, m int64) []api.Version {
	return slices.DeleteFunc(slices.Clone(l), func(v api.Version) bool { return v.Seq < m })
}

func rowsOf(l []api.Version) []api.Row {
	rows := make([]api.Row, len(l))
	for i, v := range l {
		rows[len(l)-1-i] = api.Row{Key: v.Key, Seq: v.Seq, Marker: v.Marker, Size: len(v.Data)}
	}
	return rows
}

// short is a list as an error tells it.
func short(l []api.Version) string {
	var b strings.Builder
	for i, v := range l {
		if i == 12 {
			fmt.Fprintf(&b, " .. %d in all", len(l))
			break
		}
		fmt.Fprintf(&b, " {%.8q %d %v %.12q %.40q}", v.Key, v.Seq, v.Marker, v.Data, v.Meta)
	}
	return "(" + strings.TrimPrefix(b.String(), " ") + ")"
}

// shortRows are rows as an error tells them.
func shortRows(l []api.Row) string {
	var b strings.Builder
	for _, r := range l[:min(len(l), 12)] {
		fmt.Fprintf(&b, " {%.8q %d %v %d}", r.Key, r.Seq, r.Marker, r.Size)
	}
	return fmt.Sprintf("(%s), %d in all", strings.TrimPrefix(b.String(), " "), len(l))
}

func wantPush(t *testing.T, what string, l []api.Version, v api.Version, want []api.Version, wantErr api.Errno) {
	t.Helper()
	if got, err := stack.Push(l, v); !sameAll(got, want) || err != wantErr {
		t.Errorf("P14.1: %s: Push(%s, %s) = %s, %d, want %s, %d", what, short(l), short(list(v)), short(got), err, short(want), wantErr)
	}
}

func wantTop(t *testing.T, what string, l []api.Version, want api.Version, wantErr api.Errno) {
	t.Helper()
	if got, err := stack.Top(l); !same(got, want) || err != wantErr {
		t.Errorf("P14.1: %s: Top(%s) = %s, %d, want %s, %d", what, short(l), short(list(got)), err, short(list(want)), wantErr)
	}
}

func wantGet(t *testing.T, what string, l []api.Version, seq int64, want api.Version, wantErr api.Errno) {
	t.Helper()
	if got, err := stack.Get(l, seq); !same(got, want) || err != wantErr {
		t.Errorf("P14.1: %s: Get(%s, %d) = %s, %d, want %s, %d", what, short(l), seq, short(list(got)), err, short(list(want)), wantErr)
	}
}

func wantRemove(t *testing.T, what string, l []api.Version, seq int64, want []api.Version, wantErr api.Errno) {
	t.Helper()
	if got, err := stack.Remove(l, seq); !sameAll(got, want) || err != wantErr {
		t.Errorf("P14.1: %s: Remove(%s, %d) = %s, %d, want %s, %d", what, short(l), seq, short(got), err, short(want), wantErr)
	}
}

func wantSince(t *testing.T, what string, l []api.Version, m int64, want []api.Version) {
	t.Helper()
	if got := stack.Since(l, m); !sameAll(got, want) {
		t.Errorf("P14.1: %s: Since(%s, %d) = %s, want %s", what, short(l), m, short(got), short(want))
	}
}

func wantRows(t *testing.T, what string, l []api.Version, want ...api.Row) {
	t.Helper()
	if got := stack.Rows(l); !slices.Equal(got, want) {
		t.Errorf("P14.1: %s: Rows(%s) = %s, want %s", what, short(l), shortRows(got), shortRows(want))
	}
}

// wantAsks: every call that takes a number or none answers as the chapter says.
func wantAsks(t *testing.T, what string, l []api.Version, seqs ...int64) {
	t.Helper()
	top, err := topOf(l)
	wantTop(t, what, l, top, err)
	wantRows(t, what, l, rowsOf(l)...)
	for _, n := range seqs {
		v, err := getOf(l, n)
		wantGet(t, what, l, n, v, err)
		without, err := removeOf(l, n)
		wantRemove(t, what, l, n, without, err)
		wantSince(t, what, l, n, sinceOf(l, n))
	}
}

// wantPushed: Push answers as the chapter says.
func wantPushed(t *testing.T, what string, l []api.Version, v api.Version) {
	t.Helper()
	want, err := pushOf(l, v)
	wantPush(t, what, l, v, want, err)
}

// about are the numbers at, below and above each one of a list, and the edges.
func about(l []api.Version) []int64 {
	seqs := []int64{least, least + 1, -1, 0, 1, 2, greatest - 1, greatest}
	for _, v := range l {
		seqs = append(seqs, v.Seq-1, v.Seq, v.Seq+1)
	}
	return seqs
}

// strange are lists that are no right stacks.
func strange() map[string][]api.Version {
	return map[string][]api.Version{
		"another key ahead":          list(of("j", 1), k(2)),
		"another key behind":         list(k(1), of("j", 2)),
		"a key that begins another":  list(of("", 1), k(2), of("kk", 3)),
		"falling":                    ks(9, 5, 2),
		"one number twice":           list(k(3), gone(3), of("k", 3)),
		"one number apart":           list(k(1), gone(5), of("k", 1)),
		"number 0":                   ks(0),
		"below 0":                    ks(-5, -2),
		"from below to above":        ks(-1, 0, 1),
		"the least":                  ks(least),
		"the greatest, then least":   ks(greatest, least),
		"a greater one ahead":        ks(100, 2),
		"all zero":                   make([]api.Version, 3),
		"markers with data":          list(api.Version{Key: "k", Seq: 1, Marker: true, Data: "d", Meta: k(1).Meta}, k(2)),
		"a marker with data, newest": list(k(1), api.Version{Key: "k", Seq: 2, Marker: true, Data: "d", Meta: k(1).Meta}),
	}
}

// stacks are right stacks of all kinds.
func stacks() map[string][]api.Version {
	return map[string][]api.Version{
		"none":            nil,
		"none, not nil":   {},
		"one":             ks(1),
		"one, later":      ks(7),
		"one, greatest":   ks(greatest),
		"one, a marker":   list(gone(4)),
		"near":            ks(1, 2, 3),
		"apart":           ks(1, 5, 7, 1000, api.MaxSeq, greatest-1),
		"a marker last":   list(k(1), k(5), gone(7)),
		"a marker first":  list(gone(1), k(5), k(7)),
		"a marker within": list(k(1), gone(5), k(7)),
		"markers alone":   list(gone(2), gone(3), gone(9)),
		"the key empty":   list(of("", 1), of("", 3)),
		"to the greatest": ks(greatest-2, greatest-1, greatest),
		"about a byte":    ks(255, 256, 257),
		"about 32 bits":   ks(1<<31-1, 1<<31, 1<<32-1, 1<<32),
	}
}

func TestExamples(t *testing.T) {
	k1 := api.Version{Key: "k", Seq: 1, Data: "one"}
	k5 := api.Version{Key: "k", Seq: 5, Marker: true}
	k7 := api.Version{Key: "k", Seq: 7, Meta: []api.Pair{{Name: "a", Value: "b"}}}

	wantPush(t, "example 1", nil, k1, list(k1), api.OK)
	wantPush(t, "example 1", list(k1), k5, list(k1, k5), api.OK)
	wantPush(t, "example 1", list(k1, k5), k(5), nil, api.ErrSeq)
	wantPush(t, "example 1", list(k1), of("j", 9), nil, api.ErrKey)
	wantPush(t, "example 1", nil, k(0), nil, api.ErrSeq)
	wantPush(t, "example 1", list(k1), of("j", 1), nil, api.ErrKey)

	wantTop(t, "example 2", nil, api.Version{}, api.ErrVersion)
	wantTop(t, "example 2", list(k1), k1, api.OK)
	wantTop(t, "example 2", list(k1, k5), api.Version{}, api.ErrGone)
	wantTop(t, "example 2", list(k1, k5, k7), k7, api.OK)

	wantGet(t, "example 3", list(k1, k5), 5, k5, api.OK)
	wantGet(t, "example 3", list(k1), 2, api.Version{}, api.ErrVersion)
	wantRemove(t, "example 3", list(k1, k5, k7), 5, list(k1, k7), api.OK)
	wantTop(t, "example 3", list(k1, k7), k7, api.OK)
	wantRemove(t, "example 3", list(k1, k5), 5, list(k1), api.OK)
	wantTop(t, "example 3", list(k1), k1, api.OK)

	wantSince(t, "example 4", list(k1, k5, k7), 5, list(k5, k7))
	wantSince(t, "example 4", list(k1, k5, k7), 8, nil)
	wantRows(t, "example 4", list(k1, k5, k7), api.Row{Key: "k", Seq: 7}, api.Row{Key: "k", Seq: 5, Marker: true}, api.Row{Key: "k", Seq: 1, Size: 3})
}

// TestPush: by hand, the edges of numbers and keys.
func TestPush(t *testing.T) {
	for _, n := range []int64{1, 2, 255, 1 << 32, api.MaxSeq, api.MaxSeq + 1, greatest - 1, greatest} {
		wantPush(t, "on none", nil, k(n), ks(n), api.OK)
		wantPush(t, "on an empty list", []api.Version{}, gone(n), list(gone(n)), api.OK)
		wantPush(t, "any key on none", nil, of("", n), list(of("", n)), api.OK)
	}
	for _, n := range []int64{0, -1, -2, -1 << 32, least + 1, least} {
		wantPush(t, "on none", nil, k(n), nil, api.ErrSeq)
		wantPush(t, "on none, a marker", nil, gone(n), nil, api.ErrSeq)
		wantPush(t, "on one", ks(5), k(n), nil, api.ErrSeq)
		wantPush(t, "on one below", ks(least), k(n), nil, api.ErrSeq)
		wantPush(t, "on one at 0", ks(0), k(n), nil, api.ErrSeq)
		wantPush(t, "on another's", list(of("j", 5)), k(n), nil, api.ErrKey)
	}
	for _, n := range []int64{1, 2, 5, 1 << 32, api.MaxSeq, greatest - 2} {
		for _, l := range [][]api.Version{ks(n), list(gone(n)), append(ks(1, 2, 3), k(n))} {
			wantPush(t, "one above", l, k(n+1), slices.Concat(l, ks(n+1)), api.OK)
			wantPush(t, "a marker above", l, gone(n+1), append(slices.Clone(l), gone(n+1)), api.OK)
			wantPush(t, "two above", l, k(n+2), slices.Concat(l, ks(n+2)), api.OK)
			wantPush(t, "the greatest", l, k(greatest), slices.Concat(l, ks(greatest)), api.OK)
			wantPush(t, "the newest's", l, k(n), nil, api.ErrSeq)
			wantPush(t, "one below", l, k(n-1), nil, api.ErrSeq)
			wantPush(t, "the least", l, k(least), nil, api.ErrSeq)
		}
	}
	wantPush(t, "on the greatest", ks(greatest), k(greatest), nil, api.ErrSeq)
	wantPush(t, "on the greatest", ks(greatest), k(1), nil, api.ErrSeq)
	wantPush(t, "on the greatest", ks(greatest), k(least), nil, api.ErrSeq)
	wantPush(t, "on below 0", ks(-5), k(-4), nil, api.ErrSeq)
	wantPush(t, "on below 0", ks(-5), k(1), ks(-5, 1), api.OK)
	wantPush(t, "on the least", ks(least), k(greatest), ks(least, greatest), api.OK)
}

// TestPushKey: the newest's key alone counts, byte by byte, ahead of the number.
func TestPushKey(t *testing.T) {
	for _, key := range []string{"", "j", "K", "k ", " k", "kk", "k\x00", "\xeb", "l"} {
		for _, n := range []int64{least, -1, 0, 1, 4, 5, 6, greatest} {
			wantPush(t, "another key", ks(5), of(key, n), nil, api.ErrKey)
			wantPush(t, "another key", list(of(key, 5)), k(n), nil, api.ErrKey)
			wantPush(t, "another key on a marker", list(k(1), gone(5)), of(key, n), nil, api.ErrKey)
			wantPush(t, "the first one's key", list(of(key, 1), k(5)), of(key, n), nil, api.ErrKey)
		}
		wantPush(t, "the newest's key", list(of(key, 9), k(5)), k(6), list(of(key, 9), k(5), k(6)), api.OK)
		wantPush(t, "the newest's key", list(of(key, 9), k(5)), k(5), nil, api.ErrSeq)
		wantPush(t, "one key", list(of(key, 9)), of(key, 10), list(of(key, 9), of(key, 10)), api.OK)
	}
	wantPush(t, "falling", ks(9, 5, 2), k(3), ks(9, 5, 2, 3), api.OK)
	wantPush(t, "falling", ks(9, 5, 2), k(2), nil, api.ErrSeq)
	wantPush(t, "rising over a greater one", ks(100, 2), k(100), ks(100, 2, 100), api.OK)
}

// TestTop: the newest is the last one, wherever the greatest number is.
func TestTop(t *testing.T) {
	wantTop(t, "none", []api.Version{}, api.Version{}, api.ErrVersion)
	wantTop(t, "a marker alone", list(gone(3)), api.Version{}, api.ErrGone)
	wantTop(t, "a marker with data", strange()["a marker with data, newest"], api.Version{}, api.ErrGone)
	wantTop(t, "behind a marker", list(gone(3), k(4)), k(4), api.OK)
	wantTop(t, "two markers", list(k(1), gone(3), gone(4)), api.Version{}, api.ErrGone)
	wantTop(t, "falling", ks(9, 5, 2), k(2), api.OK)
	wantTop(t, "falling to a marker", list(k(9), gone(2)), api.Version{}, api.ErrGone)
	wantTop(t, "many keys", list(k(1), of("", 0)), of("", 0), api.OK)
	wantTop(t, "the zero Version", make([]api.Version, 1), api.Version{}, api.OK)
	wantTop(t, "below 0", ks(least), k(least), api.OK)
}

// TestFirst: of several with one number the first in the list is the one.
func TestFirst(t *testing.T) {
	l := list(k(3), gone(3), of("j", 3))
	wantGet(t, "three of one", l, 3, k(3), api.OK)
	wantRemove(t, "three of one", l, 3, list(gone(3), of("j", 3)), api.OK)
	wantGet(t, "two of one", l[1:], 3, gone(3), api.OK)
	wantRemove(t, "two of one", l[1:], 3, list(of("j", 3)), api.OK)
	apart := list(k(1), gone(5), of("j", 1), k(5))
	wantGet(t, "apart", apart, 1, k(1), api.OK)
	wantGet(t, "apart", apart, 5, gone(5), api.OK)
	wantRemove(t, "apart", apart, 1, list(gone(5), of("j", 1), k(5)), api.OK)
	wantRemove(t, "apart", apart, 5, list(k(1), of("j", 1), k(5)), api.OK)
}

// TestEnds: the first and the last one removed, and the only one.
func TestEnds(t *testing.T) {
	wantRemove(t, "the first", ks(1, 5, 7), 1, ks(5, 7), api.OK)
	wantRemove(t, "the last", ks(1, 5, 7), 7, ks(1, 5), api.OK)
	wantRemove(t, "the only one", ks(4), 4, nil, api.OK)
	wantRemove(t, "a marker, the only one", list(gone(4)), 4, nil, api.OK)
	wantRemove(t, "a marker, last", list(k(1), gone(4)), 4, ks(1), api.OK)
	wantRemove(t, "a marker, first", list(gone(1), k(4)), 1, ks(4), api.OK)
	wantRemove(t, "none", nil, 0, nil, api.ErrVersion)
	wantRemove(t, "none", nil, 1, nil, api.ErrVersion)
	wantGet(t, "none", nil, 0, api.Version{}, api.ErrVersion)
	wantGet(t, "none", nil, least, api.Version{}, api.ErrVersion)
	wantGet(t, "number 0", ks(0), 0, k(0), api.OK)
	wantGet(t, "the least", ks(greatest, least), least, k(least), api.OK)
	wantRemove(t, "the least", ks(greatest, least), least, ks(greatest), api.OK)
}

// TestSince: at, below and above each number, by hand; lists that aren't right keep their order.
func TestSince(t *testing.T) {
	l := ks(1, 5, 7)
	for m, want := range map[int64][]api.Version{least: l, -1: l, 0: l, 1: l, 2: ks(5, 7), 4: ks(5, 7), 5: ks(5, 7), 6: ks(7), 7: ks(7), 8: nil, greatest: nil} {
		wantSince(t, "rising", l, m, want)
	}
	wantSince(t, "none", nil, least, nil)
	wantSince(t, "none", nil, greatest, nil)
	wantSince(t, "the greatest", ks(greatest-1, greatest), greatest, ks(greatest))
	wantSince(t, "the least", ks(least, least+1), least, ks(least, least+1))
	wantSince(t, "above the least", ks(least, least+1), least+1, ks(least+1))
	wantSince(t, "falling", ks(9, 2, 5, 1, 7), 5, ks(9, 5, 7))
	wantSince(t, "markers too", list(k(1), gone(5), gone(7)), 5, list(gone(5), gone(7)))
	wantSince(t, "all keys", list(k(3), of("j", 4), k(1), of("j", 4)), 3, list(k(3), of("j", 4), of("j", 4)))
}

// TestRows: of none, one and many, right or not.
func TestRows(t *testing.T) {
	wantRows(t, "none", nil)
	wantRows(t, "none", []api.Version{})
	wantRows(t, "one", list(of("key", 3)), api.Row{Key: "key", Seq: 3, Size: 6})
	wantRows(t, "the zero Version", make([]api.Version, 2), api.Row{}, api.Row{})
	wantRows(t, "a marker with data", list(api.Version{Key: "k", Seq: 1, Marker: true, Data: "abc"}), api.Row{Key: "k", Seq: 1, Marker: true, Size: 3})
	wantRows(t, "falling", list(of("b", 9), of("a", 2)), api.Row{Key: "a", Seq: 2, Size: 4}, api.Row{Key: "b", Seq: 9, Size: 4})
	wantRows(t, "one number twice", list(k(3), gone(3)), api.Row{Key: "k", Seq: 3, Marker: true}, api.Row{Key: "k", Seq: 3, Size: 1})
	wantRows(t, "bytes, not letters", list(api.Version{Key: "é", Seq: least, Data: "é\xff\x00"}), api.Row{Key: "é", Seq: least, Size: 4})
	for _, n := range []int{1024, 1025, 1 << 20} {
		wantRows(t, "much data", list(api.Version{Data: strings.Repeat("d", n)}), api.Row{Size: n})
	}
}

// TestLists: every list by hand, right or not, with all numbers about its own.
func TestLists(t *testing.T) {
	for _, lists := range []map[string][]api.Version{stacks(), strange()} {
		for what, l := range lists {
			wantAsks(t, what, l, about(l)...)
			for _, n := range about(l) {
				for _, v := range list(k(n), gone(n), of("j", n), of("", n)) {
					wantPushed(t, what, l, v)
				}
			}
		}
	}
	for what, l := range stacks() {
		if !isRight(l) {
			t.Fatalf("%s is not right", what)
		}
	}
	for what, l := range strange() {
		if isRight(l) && !strings.Contains(what, "data") {
			t.Fatalf("%s is right", what)
		}
	}
}

// TestSmallLists: all lists of up to three versions of few keys and numbers.
func TestSmallLists(t *testing.T) {
	var all []api.Version
	for n := int64(-1); n <= 3; n++ {
		all = append(all, k(n), gone(n), of("j", n))
	}
	seqs := []int64{-2, -1, 0, 1, 2, 3, 4}
	var grow func(l []api.Version)
	grow = func(l []api.Version) {
		wantAsks(t, "small", l, seqs...)
		for _, v := range all {
			wantPushed(t, "small", l, v)
			if len(l) < 3 {
				grow(slices.Concat(l, list(v)))
			}
		}
	}
	grow(nil)
}

// TestWalk: any lists, long ones too, against the chapter's words.
func TestWalk(t *testing.T) {
	x := &texter{1}
	for range 4000 {
		l := x.any(x.below(12))
		if x.below(3) == 0 {
			l = x.right(x.below(40))
		}
		seqs := []int64{x.seq(), x.seq()}
		if len(l) > 0 {
			seqs = append(seqs, l[x.below(len(l))].Seq, l[x.below(len(l))].Seq+1)
		}
		wantAsks(t, "a walk", l, seqs...)
		for _, n := range seqs {
			v := x.version("k", n)
			if len(l) > 0 {
				v.Key = l[x.below(len(l))].Key
			}
			wantPushed(t, "a walk", l, v)
		}
	}
	long := x.right(5000)
	wantAsks(t, "a long stack", long, 0, 1, long[0].Seq, long[2500].Seq, long[4999].Seq, long[4999].Seq+1)
	wantPushed(t, "a long stack", long, x.version(long[0].Key, long[4999].Seq+1))
	long = x.any(5000)
	wantAsks(t, "a long list", long, least, -1, 0, 1, 2, greatest)
}

// TestOutOfLimits: what no bucket would take a stack takes all the same.
func TestOutOfLimits(t *testing.T) {
	great := api.Version{Key: strings.Repeat("k", 1000), Seq: greatest, Data: strings.Repeat("d", 100000), Meta: make([]api.Pair, 1000)}
	for i := range great.Meta {
		great.Meta[i] = api.Pair{Name: fmt.Sprint(1000 - i), Value: strings.Repeat("\xff", 100)}
	}
	twice := api.Version{Key: great.Key, Seq: 3, Marker: true, Data: "d", Meta: []api.Pair{{Name: "b"}, {Name: "a"}, {Name: "a"}}}
	l := list(twice)
	wantPush(t, "out of limits", nil, great, list(great), api.OK)
	wantPush(t, "out of limits", nil, twice, list(twice), api.OK)
	wantPush(t, "out of limits", l, great, list(twice, great), api.OK)
	wantAsks(t, "out of limits", list(twice, great), 3, greatest)
}

// wantRight: a call made a right stack of a right one.
func wantRight(t *testing.T, what string, l []api.Version) {
	t.Helper()
	if !isRight(l) {
		t.Errorf("P14.2: %s: %s is not right", what, short(l))
	}
}

// TestStaysRight: what Push, Remove and Since make of right stacks is right.
func TestStaysRight(t *testing.T) {
	x := &texter{2}
	lists := stacks()
	for i := range 300 {
		lists[fmt.Sprint("a walk's ", i)] = x.right(x.below(12))
	}
	for what, l := range lists {
		for _, n := range about(l) {
			for _, v := range list(k(n), gone(n), of("", n), x.version(x.text(1), n)) {
				more, err := stack.Push(l, v)
				wantRight(t, what+", Push", more)
				if taken := isRight(slices.Concat(l, list(v))); taken != (err == api.OK) {
					t.Errorf("P14.2: %s: Push(%s, %s): %d, and right with it is %v", what, short(l), short(list(v)), err, taken)
				}
			}
			less, _ := stack.Remove(l, n)
			wantRight(t, what+", Remove", less)
			wantRight(t, what+", Since", stack.Since(l, n))
		}
	}
}

// wantGrown: Get tells each version that a stack has, Top the last one.
func wantGrown(t *testing.T, what string, l, has []api.Version) {
	t.Helper()
	if !sameAll(l, has) {
		t.Fatalf("P14.2: %s: the stack is %s, want %s", what, short(l), short(has))
	}
	for _, v := range has {
		if got, err := stack.Get(l, v.Seq); !same(got, v) || err != api.OK {
			t.Fatalf("P14.2: %s: Get(.., %d) = %s, %d, want %s", what, v.Seq, short(list(got)), err, short(list(v)))
		}
	}
	want, wantErr := topOf(has)
	if got, err := stack.Top(l); !same(got, want) || err != wantErr {
		t.Fatalf("P14.2: %s: Top = %s, %d, want %s, %d", what, short(list(got)), err, short(list(want)), wantErr)
	}
}

// TestGrowAndShrink: stacks that grow from nothing by Pushes and shrink by
// Removes are right at every step, and tell what they have.
func TestGrowAndShrink(t *testing.T) {
	x := &texter{3}
	for round := range 60 {
		key := x.text(x.below(5))
		var l, has []api.Version
		for step := range 80 {
			what := fmt.Sprintf("round %d, step %d", round, step)
			if x.below(3) > 0 || len(has) == 0 {
				v := x.version(key, x.seq())
				if x.below(2) == 0 && len(has) > 0 {
					v.Seq = has[len(has)-1].Seq + 1 + int64(x.below(5))
				}
				more, err := stack.Push(l, v)
				if err == api.OK {
					l, has = more, append(has, v)
				} else if len(more) > 0 || isRight(append(slices.Clone(has), v)) {
					t.Fatalf("P14.2: %s: Push(%s, %s) = %s, %d", what, short(l), short(list(v)), short(more), err)
				}
			} else {
				at := []int{0, len(has) - 1, x.below(len(has))}[x.below(3)]
				less, err := stack.Remove(l, has[at].Seq)
				if err != api.OK {
					t.Fatalf("P14.2: %s: Remove(%s, %d): %d", what, short(l), has[at].Seq, err)
				}
				l, has = less, slices.Delete(has, at, at+1)
			}
			wantRight(t, what, l)
			wantGrown(t, what, l, has)
		}
	}
}

// TestUndone: a Remove undoes a Push, finds nothing twice, and two may change places.
func TestUndone(t *testing.T) {
	x := &texter{4}
	lists := stacks()
	for i := range 200 {
		lists[fmt.Sprint("a walk's ", i)] = x.right(x.below(10))
	}
	for what, l := range lists {
		wantPushUndone(t, what, l, x)
		for _, a := range l {
			once, err := stack.Remove(l, a.Seq)
			if len(once) != len(l)-1 || err != api.OK {
				t.Errorf("P14.3: %s: Remove(%s, %d) = %s, %d", what, short(l), a.Seq, short(once), err)
			}
			if again, err := stack.Remove(once, a.Seq); len(again) > 0 || err != api.ErrVersion {
				t.Errorf("P14.3: %s: Remove of %d twice: %s, %d", what, a.Seq, short(again), err)
			}
			for _, b := range l {
				wantEitherOrder(t, what, l, a.Seq, b.Seq)
			}
		}
	}
	// Unlike numbers may change places in any lists.
	for range 300 {
		l := x.any(2 + x.below(8))
		if a, b := l[x.below(len(l))].Seq, l[x.below(len(l))].Seq; a != b {
			wantEitherOrder(t, "any list", l, a, b)
		}
	}
}

// wantPushUndone: Remove of what was pushed leaves the stack as it was.
func wantPushUndone(t *testing.T, what string, l []api.Version, x *texter) {
	t.Helper()
	key, last := "k", int64(0)
	if len(l) > 0 {
		key, last = l[0].Key, l[len(l)-1].Seq
	}
	if last == greatest {
		return
	}
	for _, n := range []int64{last + 1, last + (greatest-last)/2 + 1, greatest} {
		more, err := stack.Push(l, x.version(key, n))
		if err != api.OK {
			t.Errorf("P14.3: %s: Push(%s, .. %d ..): %d", what, short(l), n, err)
		}
		if back, err := stack.Remove(more, n); !sameAll(back, l) || err != api.OK {
			t.Errorf("P14.3: %s: Remove(%s, %d) = %s, %d, want %s", what, short(more), n, short(back), err, short(l))
		}
	}
}

// wantEitherOrder: two Removes make the same, whichever is first.
func wantEitherOrder(t *testing.T, what string, l []api.Version, a, b int64) {
	t.Helper()
	if a == b {
		return
	}
	withoutA, _ := stack.Remove(l, a)
	withoutB, _ := stack.Remove(l, b)
	ab, errAB := stack.Remove(withoutA, b)
	ba, errBA := stack.Remove(withoutB, a)
	if !sameAll(ab, ba) || errAB != api.OK || errBA != api.OK || len(ab) != len(l)-2 {
		t.Errorf("P14.3: %s: of %s without %d and %d: %s, %d, and %s, %d", what, short(l), a, b, short(ab), errAB, short(ba), errBA)
	}
}

// TestRowsAndSince: Rows are as many as there are; those from a number on are
// Since's, and with those below they make up the stack.
func TestRowsAndSince(t *testing.T) {
	x := &texter{5}
	lists := stacks()
	for i := range 300 {
		lists[fmt.Sprint("a walk's ", i)] = x.right(x.below(15))
	}
	for what, l := range lists {
		rows := stack.Rows(l)
		if len(rows) != len(l) {
			t.Errorf("P14.4: %s: %d rows of %d versions", what, len(rows), len(l))
		}
		for _, m := range about(l) {
			since := stack.Since(l, m)
			from := slices.DeleteFunc(slices.Clone(rows), func(r api.Row) bool { return r.Seq < m })
			if got := stack.Rows(since); !slices.Equal(got, from) {
				t.Errorf("P14.4: %s: Rows(Since(%s, %d)) = %s, want %s", what, short(l), m, shortRows(got), shortRows(from))
			}
			below := slices.DeleteFunc(slices.Clone(l), func(v api.Version) bool { return v.Seq >= m })
			if whole := slices.Concat(below, since); !sameAll(whole, l) {
				t.Errorf("P14.4: %s: those below %d and Since make up %s, not %s", what, m, short(whole), short(l))
			}
		}
	}
	for what, l := range strange() {
		if got := len(stack.Rows(l)); got != len(l) {
			t.Errorf("P14.4: %s: %d rows of %d versions", what, got, len(l))
		}
	}
}

// room is a piece of memory, from one address on and below another.
type room struct{ from, to uintptr }

func roomOf[T any](l []T) room {
	var one T
	from := uintptr(unsafe.Pointer(unsafe.SliceData(l)))
	return room{from, from + uintptr(cap(l))*unsafe.Sizeof(one)}
}

// rooms are where a list and the pairs of all its versions lie, spare room too.
func rooms(l []api.Version) []room {
	all := []room{roomOf(l)}
	for _, v := range l[:cap(l)] {
		all = append(all, roomOf(v.Meta))
	}
	return all
}

// share: have any two of these any memory in common?
func share(all []room) bool {
	all = slices.DeleteFunc(all, func(r room) bool { return r.from == r.to })
	slices.SortFunc(all, func(a, b room) int { return cmp.Compare(a.from, b.from) })
	for i := 1; i < len(all); i++ {
		if all[i].from < all[i-1].to {
			return true
		}
	}
	return false
}

// deep is the same list, its spare room and the pairs' too, in other memory.
func deep(l []api.Version) []api.Version {
	whole := slices.Clone(l[:cap(l)])
	for i, v := range whole {
		whole[i].Meta = slices.Clone(v.Meta[:cap(v.Meta)])[:len(v.Meta)]
	}
	return whole[:len(l)]
}

// unchanged: is a list as it was, in its spare room and the pairs' too?
func unchanged(l, was []api.Version) bool {
	l, was = l[:cap(l)], was[:len(l[:cap(l)])]
	return slices.EqualFunc(l, was, func(a, b api.Version) bool {
		whole := slices.Equal(a.Meta[:cap(a.Meta)], b.Meta[:cap(a.Meta)])
		return whole && len(a.Meta) == len(b.Meta) && a.Key == b.Key && a.Seq == b.Seq && a.Marker == b.Marker && a.Data == b.Data
	})
}

// roomy is a list whose spare room, and that of its pairs, has something in it.
func (t *texter) roomy(l []api.Version) []api.Version {
	whole := slices.Clone(l)
	for range t.below(4) {
		whole = append(whole, t.version("spare", t.seq()))
	}
	for i, v := range whole {
		pairs := slices.Clone(v.Meta)
		for range t.below(3) {
			pairs = append(pairs, api.Pair{Name: "spare", Value: t.text(2)})
		}
		whole[i].Meta = slices.Clip(pairs)[:len(v.Meta)]
	}
	return slices.Clip(whole)[:len(l)]
}

// scribble writes over all that a list has, its spare room and the pairs' too.
func scribble(l []api.Version) {
	l = l[:cap(l)]
	for i := range l {
		pairs := l[i].Meta[:cap(l[i].Meta)]
		for k := range pairs {
			pairs[k] = api.Pair{Name: "over", Value: "over"}
		}
		l[i] = api.Version{Key: "over", Seq: -77, Marker: true, Data: "over"}
	}
}

// answers is all that the calls tell of a list, each list for itself.
func answers(l []api.Version, v api.Version) (lists [][]api.Version, rows []api.Row) {
	more, _ := stack.Push(l, v)
	less, _ := stack.Remove(l, v.Seq)
	lists = append(lists, more, less, stack.Since(l, v.Seq), stack.Since(l, least))
	if top, err := stack.Top(l); err == api.OK {
		lists = append(lists, list(top))
	}
	for _, seq := range []int64{v.Seq, 1, 2} {
		if got, err := stack.Get(l, seq); err == api.OK {
			lists = append(lists, list(got))
		}
	}
	for _, w := range l {
		less, _ := stack.Remove(l, w.Seq)
		got, _ := stack.Get(l, w.Seq)
		lists = append(lists, less, list(got))
	}
	return lists, stack.Rows(l)
}

// TestHandedIn: no call changes what it is given, and none keeps it or shares
// it with what it answers; no two lists of answers share any either.
func TestHandedIn(t *testing.T) {
	x := &texter{6}
	for i := range 600 {
		l := x.right(x.below(6))
		if i%3 == 0 {
			l = x.any(x.below(6))
		}
		v := x.version("k", x.seq())
		if len(l) > 0 {
			v = x.version(l[len(l)-1].Key, l[len(l)-1].Seq+int64(i%2))
		}
		l = x.roomy(l)
		pushed := x.roomy(list(v))
		was, pushedWas := deep(l), deep(pushed)
		lists, rows := answers(l, pushed[0])
		if !unchanged(l, was) || !unchanged(pushed, pushedWas) {
			t.Fatalf("P14.1: a call made %s of %s, and %s of %s", short(l[:cap(l)]), short(was[:cap(l)]), short(pushed), short(pushedWas))
		}
		all := append(rooms(l), rooms(pushed)...)
		for _, got := range lists {
			all = append(all, rooms(got)...)
		}
		if share(append(all, roomOf(rows))) {
			t.Fatalf("P14.1: lists of answers share memory, or with what was handed in: %s and %s", short(l), short(list(v)))
		}
		scribble(l)
		scribble(pushed)
		again, rowsAgain := answers(was, pushedWas[0])
		if !slices.EqualFunc(lists, again, sameAll) || !slices.Equal(rows, rowsAgain) {
			t.Fatalf("P14.1: what was answered hangs on what was handed in, or the calls tell another thing the second time, of %s", short(was))
		}
	}
}

// TestGrowAlone: what is answered grows and is written over without touching
// what was answered besides.
func TestGrowAlone(t *testing.T) {
	x := &texter{7}
	for range 300 {
		l := x.right(1 + x.below(6))
		v := x.version(l[0].Key, l[len(l)-1].Seq+1)
		lists, _ := answers(l, v)
		want, _ := answers(l, v)
		for i, got := range lists {
			_ = append(got, api.Version{Key: "one more"})
			for at := range got {
				_ = append(got[at].Meta, api.Pair{Name: "one more"})
			}
			if !slices.EqualFunc(lists[i:], want[i:], sameAll) {
				t.Fatalf("P14.1: what grows touches other lists: of %s", short(l))
			}
			scribble(got)
			if !slices.EqualFunc(lists[i+1:], want[i+1:], sameAll) {
				t.Fatalf("P14.1: what is written over touches other lists: of %s", short(l))
			}
		}
	}
}

// TestRefused: with an error there is nothing else.
func TestRefused(t *testing.T) {
	l := ks(1, 5)
	if got, err := stack.Push(l, k(5)); len(got) != 0 || err != api.ErrSeq {
		t.Errorf("P14.1: Push of one number twice: %s, %d", short(got), err)
	}
	if got, err := stack.Remove(l, 4); len(got) != 0 || err != api.ErrVersion {
		t.Errorf("P14.1: Remove of none: %s, %d", short(got), err)
	}
	full := api.Version{Key: "k", Seq: 9, Marker: true, Data: "d", Meta: k(1).Meta}
	if got, err := stack.Top(list(full)); !same(got, api.Version{}) || err != api.ErrGone {
		t.Errorf("P14.1: Top of a marker: %s, %d", short(list(got)), err)
	}
	if got, err := stack.Get(list(full), 8); !same(got, api.Version{}) || err != api.ErrVersion {
		t.Errorf("P14.1: Get of none: %s, %d", short(list(got)), err)
	}
}

// TestBeside: many beside one another, on the same lists, tell what one alone tells.
func TestBeside(t *testing.T) {
	x := &texter{8}
	var lists [][]api.Version
	for range 50 {
		lists = append(lists, x.roomy(x.right(x.below(8))), x.roomy(x.any(x.below(8))))
	}
	var all sync.WaitGroup
	for range 8 {
		all.Go(func() {
			for _, l := range lists {
				wantAsks(t, "beside others", l, about(l)...)
				for _, n := range about(l) {
					wantPushed(t, "beside others", l, k(n))
				}
			}
		})
	}
	all.Wait()
}
