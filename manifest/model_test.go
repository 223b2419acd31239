package manifest_test

import (
	"crypto/sha256"
	"encoding/binary"
	"encoding/hex"
	"fmt"
	"math"
	"slices"
	"strconv"
	"strings"

	"coffer/api"
	"coffer/manifest"
)

const (
	least    = math.MinInt64
	greatest = math.MaxInt64
	maxNext  = 1099511627777
	small    = "-0123456789abcdefghijklmnopqrstuvwxyz"
)

type (
	item  = manifest.Item
	whole = manifest.Manifest
)

// texter tells numbers and texts that look like chance and are the same each time.
type texter struct{ x uint64 }

func (t *texter) number() uint64 {
	t.x += 0x9e3779b97f4a7c15
	z := t.x
	z = (z ^ z>>30) * 0xbf58476d1ce4e5b9
	z = (z ^ z>>27) * 0x94d049bb133111eb
	return z ^ z>>31
}

func (t *texter) below(n int) int { return int(t.number() % uint64(n)) }

// text has n bytes of all kinds.
func (t *texter) text(n int) string {
	b := make([]byte, n)
	for i := range b {
		b[i] = byte(t.number())
	}
	return string(b)
}

// keys rise, as bytes; some begin others, some look like records.
var keys = []string{"\x00", "\x00\x00", "\n", "\n=\x00", "16 end=manifest\n", "=", "a", "a\x00", "ab", "a\xff", "b", "k", "\xff", "\xff\xff"}

func (t *texter) key() string {
	if t.below(6) == 0 {
		return t.text(1 + t.below(32))
	}
	return keys[t.below(len(keys))]
}

// meta is right metadata.
func (t *texter) meta() []api.Pair {
	var l []api.Pair
	for _, name := range []string{"-", "0", "a", "a-b", "ab", "sixteen-letters-", "x", "z"} {
		if t.below(3) == 0 {
			l = append(l, api.Pair{Name: name, Value: t.text(t.below(12))})
		}
	}
	return l
}

func (t *texter) leaf() (leaf [32]byte) {
	copy(leaf[:], t.text(32))
	return leaf
}

// bucket is a right value of at most n versions from a number on.
func (t *texter) bucket(since int64, n int) api.Bucket {
	b := api.Bucket{Next: max(since, 1)}
	for range t.below(n + 1) {
		b.Next += int64(t.below(3))
		v := api.Version{Key: t.key(), Seq: b.Next, Marker: t.below(4) == 0}
		if !v.Marker {
			v.Data, v.Meta = t.text(t.below(30)), t.meta()
		}
		b.Next++
		b.Versions = append(b.Versions, v)
	}
	slices.SortFunc(b.Versions, func(a, b api.Version) int {
		if ahead(a.Key, a.Seq, b.Key, b.Seq) {
			return -1
		}
		return 1
	})
	b.Next += int64(t.below(3))
	return b
}

// right is a right manifest of at most n items, full or not.
func (t *texter) right(n int) whole {
	since := int64(0)
	if t.below(2) == 0 {
		since = 1 + int64(t.number()%(1<<(1+t.below(39))))
	}
	b := t.bucket(since, n)
	m := ofBucket(b, since)
	for i := range m.Items {
		if t.below(4) == 0 {
			m.Items[i].Leaf = t.leaf()
		}
		if !m.Items[i].Marker && t.below(8) == 0 {
			m.Items[i].Size = 1000 + t.below(25)
		}
	}
	return m
}

// near is a number at an edge, or beside one of the manifest's own.
func (t *texter) near(m whole) int64 {
	l := []int64{least, -1, 0, 1, 2, m.Since, m.Next, maxNext, greatest, int64(t.number())}
	for _, x := range m.Items {
		l = append(l, x.Seq)
	}
	return l[t.below(len(l))] + int64(t.below(3)) - 1
}

// spoil does one thing to a manifest that may make it wrong.
func (t *texter) spoil(m *whole) {
	if len(m.Items) == 0 || t.below(5) == 0 {
		if n := t.near(*m); t.below(2) == 0 {
			m.Next = n
		} else {
			m.Since = n
		}
		return
	}
	x := &m.Items[t.below(len(m.Items))]
	y := &m.Items[t.below(len(m.Items))]
	switch t.below(11) {
	case 0:
		x.Seq = t.near(*m)
	case 1:
		x.Seq = y.Seq
	case 2:
		*x, *y = *y, *x
	case 3:
		x.Key = t.key()
	case 4:
		x.Key = t.text([]int{0, 1, 32, 33}[t.below(4)])
	case 5:
		x.Marker = !x.Marker
	case 6:
		x.Size = []int{-1, 0, 1, 1024, 1025, math.MinInt, math.MaxInt}[t.below(7)]
	case 7:
		x.Meta = append(slices.Clone(x.Meta), api.Pair{Name: "zz", Value: t.text([]int{0, 64, 65}[t.below(3)])})
	case 8:
		x.Meta = slices.Clone(x.Meta)
		slices.Reverse(x.Meta)
	case 9:
		x.Meta = []api.Pair{{Name: strings.Repeat("n", []int{0, 1, 16, 17}[t.below(4)])}}
	case 10:
		x.Leaf = t.leaf()
	}
}

// The chapter's calls, by its words.

func ahead(key string, seq int64, other string, otherSeq int64) bool {
	return key < other || key == other && seq < otherSeq
}

// metaRight: is metadata right, by the words of chapter 12?
func metaRight(l []api.Pair) bool {
	for i, p := range l {
		if len(p.Name) < 1 || len(p.Name) > 16 || strings.Trim(p.Name, small) != "" || strings.ContainsFunc(p.Name, func(c rune) bool { return !strings.ContainsRune(small, c) }) || len(p.Value) > 64 {
			return false
		}
		if i > 0 && l[i-1].Name >= p.Name {
			return false
		}
	}
	return len(l) <= 8
}

func rightOf(m whole) bool {
	if m.Next < 1 || m.Next > maxNext || m.Since < 0 || m.Since > m.Next || len(m.Items) > 256 {
		return false
	}
	sum, seqs := 0, map[int64]int{}
	for i, x := range m.Items {
		seqs[x.Seq]++
		switch {
		case len(x.Key) < 1 || len(x.Key) > 32:
			return false
		case x.Seq < 1 || x.Seq > m.Next-1 || x.Seq < m.Since || seqs[x.Seq] == 2:
			return false
		case x.Marker && (x.Size != 0 || len(x.Meta) != 0):
			return false
		case x.Size < 0 || x.Size > 1024 || !metaRight(x.Meta):
			return false
		case i > 0 && !ahead(m.Items[i-1].Key, m.Items[i-1].Seq, x.Key, x.Seq):
			return false
		}
		sum += 32 + len(x.Key) + x.Size
		for _, p := range x.Meta {
			sum += len(p.Name) + len(p.Value)
		}
	}
	return sum <= 65536
}

// line is a record's key and value, and of which item it is (-1: of none).
type line struct {
	key, value string
	of         int
}

// rec is the record of a key and a value, by the words of chapter 4.
func rec(key, value string) string {
	n := len(key) + len(value) + 3
	for d := 1; ; d++ {
		if s := strconv.Itoa(n + d); len(s) == d {
			return s + " " + key + "=" + value + "\n"
		}
	}
}

// recs are records of keys and values in turn.
func recs(l ...string) string {
	var b strings.Builder
	for i := 0; i < len(l); i += 2 {
		b.WriteString(rec(l[i], l[i+1]))
	}
	return b.String()
}

// lines are a manifest's records, by the chapter's table; a marker that has a
// size though it may not tells it too, so that the records are as wrong as it.
func lines(m whole) []line {
	l := []line{{"kind", "full", -1}, {"format", "coffer-1", -1}, {"next", fmt.Sprint(m.Next), -1}}
	if m.Since != 0 {
		l[0].value = "delta"
		l = append(l, line{"since", fmt.Sprint(m.Since), -1})
	}
	l = append(l, line{"count", fmt.Sprint(len(m.Items)), -1})
	for i, x := range m.Items {
		l = append(l, line{"key", x.Key, i}, line{"seq", fmt.Sprint(x.Seq), i})
		if x.Marker {
			l = append(l, line{"type", "marker", i})
		} else {
			l = append(l, line{"type", "data", i})
		}
		if !x.Marker || x.Size != 0 {
			l = append(l, line{"size", fmt.Sprint(x.Size), i})
		}
		for _, p := range x.Meta {
			l = append(l, line{"meta." + p.Name, p.Value, i})
		}
		l = append(l, line{"leaf", hex.EncodeToString(x.Leaf[:]), i})
	}
	return append(l, line{"end", "manifest", -1})
}

func textOf(l []line) string {
	var b strings.Builder
	for _, x := range l {
		b.WriteString(rec(x.key, x.value))
	}
	return b.String()
}

func writeOf(m whole) (string, api.Errno) {
	if !rightOf(m) {
		return "", 1
	}
	return textOf(lines(m)), 0
}

// cut is the first record of a text, and what is behind it.
func cut(b string) (key, value, rest string, found bool) {
	digits, _, _ := strings.Cut(b, " ")
	n, err := strconv.Atoi(digits)
	if err != nil || n < 1 || n > len(b) || n <= len(digits) {
		return "", "", "", false
	}
	key, value, found = strings.Cut(b[len(digits)+1:n], "=")
	value = strings.TrimSuffix(value, "\n")
	return key, value, b[n:], found && rec(key, value) == b[:n]
}

// readOf gathers what the records up to the first end say, in whatever order and
// form they are, and asks whether that is a right manifest whose text they are.
func readOf(b string) (whole, int, api.Errno) {
	var m whole
	x := &item{}
	for rest := b; ; {
		key, value, behind, found := cut(rest)
		if !found {
			return whole{}, 0, 90
		}
		number, _ := strconv.ParseInt(value, 10, 64)
		switch rest = behind; key {
		case "next":
			m.Next = number
		case "since":
			m.Since = number
		case "key":
			m.Items = append(m.Items, item{Key: value})
			x = &m.Items[len(m.Items)-1]
		case "seq":
			x.Seq = number
		case "type":
			x.Marker = value == "marker"
		case "size":
			x.Size = int(number)
		case "leaf":
			h, _ := hex.DecodeString(value)
			copy(x.Leaf[:], h)
		case "end":
			n := len(b) - len(rest)
			if s, err := writeOf(m); err == 0 && s == b[:n] {
				return m, n, 0
			}
			return whole{}, 0, 90
		default:
			if name, is := strings.CutPrefix(key, "meta."); is {
				x.Meta = append(x.Meta, api.Pair{Name: name, Value: value})
			}
		}
	}
}

// leafOf is merkle's leaf of a version's bytes, by the words of chapters 3 and 13.
func leafOf(v api.Version) [32]byte {
	b := []byte{0, 0}
	if v.Marker {
		b[1] = 1
	}
	b = binary.BigEndian.AppendUint64(b, uint64(v.Seq))
	b = append(append(b, byte(len(v.Key))), v.Key...)
	if !v.Marker {
		b = binary.BigEndian.AppendUint16(b, uint16(len(v.Data)))
		b = append(append(b, v.Data...), byte(len(v.Meta)))
		for _, p := range v.Meta {
			b = append(append(b, byte(len(p.Name))), p.Name...)
			b = append(append(b, byte(len(p.Value))), p.Value...)
		}
	}
	return sha256.Sum256(b)
}

// ofBucket is the manifest of a value, be it right or not.
func ofBucket(b api.Bucket, since int64) whole {
	m := whole{Since: since, Next: b.Next}
	for _, v := range b.Versions {
		m.Items = append(m.Items, item{Key: v.Key, Seq: v.Seq, Marker: v.Marker, Size: len(v.Data), Meta: slices.Clone(v.Meta), Leaf: leafOf(v)})
	}
	return m
}

func ofOf(b api.Bucket, since int64) (whole, api.Errno) {
	if m := ofBucket(b, since); rightOf(m) {
		return m, 0
	}
	return whole{}, 1
}

func sameItem(a, b item) bool {
	return a.Key == b.Key && a.Seq == b.Seq && a.Marker == b.Marker && a.Size == b.Size && a.Leaf == b.Leaf && slices.Equal(a.Meta, b.Meta)
}

func same(a, b whole) bool {
	return a.Since == b.Since && a.Next == b.Next && slices.EqualFunc(a.Items, b.Items, sameItem)
}

// short is a manifest as an error tells it.
func short(m whole) string {
	s := fmt.Sprintf("{Since %d Next %d, %d items:", m.Since, m.Next, len(m.Items))
	for _, x := range m.Items[:min(len(m.Items), 4)] {
		s += fmt.Sprintf(" {%.40q %d %v Size %d, %d pairs %.200q, %x..}", x.Key, x.Seq, x.Marker, x.Size, len(x.Meta), x.Meta, x.Leaf[:3])
	}
	return s + "}"
}

// pairs are made of names and values in turn.
func pairs(s ...string) []api.Pair {
	var l []api.Pair
	for i := 0; i < len(s); i += 2 {
		l = append(l, api.Pair{Name: s[i], Value: s[i+1]})
	}
	return l
}

// many are so many pairs, their Names in order.
func many(n int) []api.Pair {
	var l []api.Pair
	for i := range n {
		l = append(l, api.Pair{Name: fmt.Sprintf("n%03d", i), Value: "v"})
	}
	return l
}

func times(n int, letter string) string { return strings.Repeat(letter, n) }

// of is a manifest of these items.
func of(since, next int64, l ...item) whole { return whole{Since: since, Next: next, Items: l} }

// data and gone are items of each kind.
func data(key string, seq int64, size int, l ...api.Pair) item {
	return item{Key: key, Seq: seq, Size: size, Meta: l, Leaf: [32]byte{byte(seq), 0xab, 31: 0xff}}
}

func gone(key string, seq int64) item {
	return item{Key: key, Seq: seq, Marker: true, Leaf: [32]byte{1: byte(seq), 31: 1}}
}

// list is n items of one key, the numbers from 1 on, all of one size, or markers.
func list(n, size int, marker bool) []item {
	var l []item
	for i := range n {
		l = append(l, item{Key: "k", Seq: int64(i) + 1, Size: size, Marker: marker})
	}
	return l
}
