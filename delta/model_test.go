package delta_test

import (
	"fmt"
	"math"
	"slices"
	"strings"

	"coffer/api"
	"coffer/archive"
)

const (
	least    = math.MinInt64
	greatest = math.MaxInt64
	maxNext  = 1099511627777
	small    = "-0123456789abcdefghijklmnopqrstuvwxyz"
)

// texter tells numbers and texts that look like chance and are the same each time.
type texter struct{ x uint64 }

func (t *texter) number() uint64 {
	t.x += 0x9e3779b97f4a7c15
	z := t.x
	z = (z ^ z>>30) * 0xbf58476d1ce4e5b9
	z = (z ^ z>>27) * 0x94d049bb133111eb
	return z ^ z>>31
}

func (t *texter) below(n int) int { return int(t.number() % uint64(n)) }

// text has n bytes of all kinds.
func (t *texter) text(n int) string {
	b := make([]byte, n)
	for i := range b {
		b[i] = byte(t.number())
	}
	return string(b)
}

// keys rise, as bytes; some begin others.
var keys = []string{"\x00", "\x00\x00", "\n", "=", "a", "a\x00", "a\x00b", "ab", "aé", "a\xff", "b", "k", "\xff", "\xff\xff"}

// meta is right metadata.
func (t *texter) meta() []api.Pair {
	var l []api.Pair
	for _, name := range []string{"-", "0", "a", "a-b", "ab", "sixteen-letters-", "x", "z"} {
		if t.below(3) == 0 {
			l = append(l, api.Pair{Name: name, Value: t.text(t.below(9))})
		}
	}
	return l
}

// value is a right value of at most n versions, with gaps between the numbers.
func (t *texter) value(n int) api.Bucket {
	b := api.Bucket{Next: 1}
	if t.below(4) == 0 {
		b.Next += int64(t.number() % (1 << t.below(40)))
	}
	for range t.below(n + 1) {
		b.Next += int64(t.below(5) / 3)
		v := api.Version{Key: keys[t.below(len(keys))], Seq: b.Next, Marker: t.below(4) == 0}
		if !v.Marker {
			v.Data, v.Meta = t.text(t.below(70)), t.meta()
		}
		b.Next++
		b.Versions = append(b.Versions, v)
	}
	b.Next += int64(t.below(3))
	b.Versions = inOrder(b.Versions)
	return b
}

// right is a right delta of at most n versions.
func (t *texter) right(n int) api.Delta {
	b := t.value(n)
	since := b.Next
	for _, v := range b.Versions {
		since = min(since, v.Seq)
	}
	return api.Delta{Since: 1 + int64(t.number()%uint64(since)), Bucket: b}
}

// spoil does one thing to a delta that may make it wrong.
func (t *texter) spoil(d *api.Delta) {
	b := &d.Bucket
	l := []int64{least, -1, 0, 1, 2, d.Since, b.Next, maxNext, greatest, int64(t.number())}
	for _, v := range b.Versions {
		l = append(l, v.Seq)
	}
	near := l[t.below(len(l))] + int64(t.below(3)) - 1
	if len(b.Versions) == 0 || t.below(4) == 0 {
		if t.below(2) == 0 {
			b.Next = near
		} else {
			d.Since = near
		}
		return
	}
	v, w := &b.Versions[t.below(len(b.Versions))], &b.Versions[t.below(len(b.Versions))]
	switch t.below(9) {
	case 0:
		v.Seq = near
	case 1:
		v.Seq = w.Seq
	case 2:
		*v, *w = *w, *v
	case 3:
		v.Key = keys[t.below(len(keys))]
	case 4:
		v.Key = t.text([]int{0, 1, 32, 33}[t.below(4)])
	case 5:
		v.Marker = !v.Marker
	case 6:
		v.Data = t.text([]int{0, 1, 1024, 1025}[t.below(4)])
	case 7:
		v.Meta = append(slices.Clone(v.Meta), api.Pair{Name: "zz", Value: t.text([]int{0, 64, 65}[t.below(3)])})
	case 8:
		v.Meta = slices.Clone(v.Meta)
		slices.Reverse(v.Meta)
	}
}

// any is a delta that may be wrong in several things.
func (t *texter) any(n int) api.Delta {
	d := t.right(n)
	for range t.below(4) {
		t.spoil(&d)
	}
	return d
}

// The chapter's calls, by its words.

func ahead(a, b api.Version) bool { return a.Key < b.Key || a.Key == b.Key && a.Seq < b.Seq }

// inOrder is the same versions in canonical order.
func inOrder(l []api.Version) []api.Version {
	var out []api.Version
	for _, v := range l {
		at := len(out)
		for at > 0 && ahead(v, out[at-1]) {
			at--
		}
		out = slices.Insert(out, at, v)
	}
	return out
}

func sizeOf(l []api.Version) int {
	sum := 0
	for _, v := range l {
		sum += 32 + len(v.Key) + len(v.Data)
		for _, p := range v.Meta {
			sum += len(p.Name) + len(p.Value)
		}
	}
	return sum
}

// metaRight: is metadata right, by the words of chapter 12?
func metaRight(l []api.Pair) bool {
	for i, p := range l {
		if len(p.Name) < 1 || len(p.Name) > 16 || strings.ContainsFunc(p.Name, func(c rune) bool { return !strings.ContainsRune(small, c) }) || len(p.Value) > 64 {
			return false
		}
		if i > 0 && l[i-1].Name >= p.Name {
			return false
		}
	}
	return len(l) <= 8
}

// valueRight: is a value right, by the words of chapter 15?
func valueRight(b api.Bucket) bool {
	if b.Next < 1 || b.Next > maxNext || len(b.Versions) > 256 || sizeOf(b.Versions) > 65536 {
		return false
	}
	seqs := map[int64]int{}
	for i, v := range b.Versions {
		seqs[v.Seq]++
		switch {
		case len(v.Key) < 1 || len(v.Key) > 32 || len(v.Data) > 1024 || !metaRight(v.Meta):
			return false
		case v.Seq < 1 || v.Seq > b.Next-1 || seqs[v.Seq] == 2:
			return false
		case v.Marker && (v.Data != "" || len(v.Meta) != 0):
			return false
		case i > 0 && !ahead(b.Versions[i-1], v):
			return false
		}
	}
	return true
}

func rightOf(d api.Delta) bool {
	if !valueRight(d.Bucket) || d.Since < 1 || d.Since > d.Bucket.Next {
		return false
	}
	for _, v := range d.Bucket.Versions {
		if v.Seq < d.Since {
			return false
		}
	}
	return true
}

func sinceOf(b api.Bucket, m int64) (api.Delta, api.Errno) {
	if m < 1 || m > b.Next {
		return api.Delta{}, 1
	}
	d := api.Delta{Since: m, Bucket: api.Bucket{Next: b.Next}}
	for _, v := range b.Versions {
		if v.Seq >= m {
			d.Bucket.Versions = append(d.Bucket.Versions, v)
		}
	}
	return d, 0
}

func applyOf(b api.Bucket, d api.Delta) (api.Bucket, api.Errno) {
	l := slices.Concat(b.Versions, d.Bucket.Versions)
	switch {
	case d.Since != b.Next:
		return api.Bucket{}, 91
	case len(l) > 256:
		return api.Bucket{}, 75
	case sizeOf(l) > 65536:
		return api.Bucket{}, 76
	}
	return api.Bucket{Next: d.Bucket.Next, Versions: inOrder(l)}, 0
}

func encodeOf(d api.Delta) (string, api.Errno) {
	if !rightOf(d) {
		return "", 1
	}
	return archive.Pack(d.Bucket, d.Since)
}

func decodeOf(s string) (api.Delta, api.Errno) {
	if b, since, err := archive.Unpack(s); err == 0 && since != 0 {
		return api.Delta{Since: since, Bucket: b}, 0
	}
	return api.Delta{}, 90
}

// olderOf is the value with Next m and the versions below m.
func olderOf(b api.Bucket, m int64) api.Bucket {
	u := api.Bucket{Next: m}
	for _, v := range b.Versions {
		if v.Seq < m {
			u.Versions = append(u.Versions, v)
		}
	}
	return u
}

func sameVersion(a, b api.Version) bool {
	return a.Key == b.Key && a.Seq == b.Seq && a.Marker == b.Marker && a.Data == b.Data && slices.Equal(a.Meta, b.Meta)
}

func same(a, b api.Bucket) bool {
	return a.Next == b.Next && slices.EqualFunc(a.Versions, b.Versions, sameVersion)
}

func sameDelta(a, b api.Delta) bool { return a.Since == b.Since && same(a.Bucket, b.Bucket) }

// short is a value as an error tells it.
func short(b api.Bucket) string {
	s := fmt.Sprintf("{Next %d, %d versions:", b.Next, len(b.Versions))
	for _, v := range b.Versions[:min(len(b.Versions), 6)] {
		s += fmt.Sprintf(" {%.40q %d %v, %d bytes %.20q, %d pairs %.100q}", v.Key, v.Seq, v.Marker, len(v.Data), v.Data, len(v.Meta), v.Meta[:min(len(v.Meta), 9)])
	}
	return s + "}"
}

func shortDelta(d api.Delta) string { return fmt.Sprintf("{%d, %s}", d.Since, short(d.Bucket)) }

// pairs are made of names and values in turn.
func pairs(s ...string) []api.Pair {
	var l []api.Pair
	for i := 0; i < len(s); i += 2 {
		l = append(l, api.Pair{Name: s[i], Value: s[i+1]})
	}
	return l
}

func times(n int, letter string) string { return strings.Repeat(letter, n) }

// of and since are a value and a delta of these versions.
func of(next int64, l ...api.Version) api.Bucket { return api.Bucket{Next: next, Versions: l} }

func since(m, next int64, l ...api.Version) api.Delta {
	return api.Delta{Since: m, Bucket: of(next, l...)}
}

// data and gone are versions of each kind.
func data(key string, seq int64, text string, l ...api.Pair) api.Version {
	return api.Version{Key: key, Seq: seq, Data: text, Meta: l}
}

func gone(key string, seq int64) api.Version { return api.Version{Key: key, Seq: seq, Marker: true} }

// list is n versions of one key, the numbers from one on, each of this size.
func list(n int, key string, from int64, size int) []api.Version {
	var l []api.Version
	for i := range n {
		l = append(l, data(key, from+int64(i), times(size-32-len(key), "d")))
	}
	return l
}
