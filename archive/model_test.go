package archive_test

import (
	"crypto/sha256"
	"encoding/binary"
	"encoding/hex"
	"fmt"
	"math"
	"slices"
	"strconv"
	"strings"

	"coffer/api"
)

const (
	least    = math.MinInt64
	greatest = math.MaxInt64
	maxNext  = 1099511627777
	small    = "-0123456789abcdefghijklmnopqrstuvwxyz"
)

// texter tells numbers and texts that look like chance and are the same each time.
type texter struct{ x uint64 }

func (t *texter) number() uint64 {
	t.x += 0x9e3779b97f4a7c15
	z := t.x
	z = (z ^ z>>30) * 0xbf58476d1ce4e5b9
	z = (z ^ z>>27) * 0x94d049bb133111eb
	return z ^ z>>31
}

func (t *texter) below(n int) int { return int(t.number() % uint64(n)) }

// text has n bytes of all kinds.
func (t *texter) text(n int) string {
	b := make([]byte, n)
	for i := range b {
		b[i] = byte(t.number())
	}
	return string(b)
}

// keys rise, as bytes; some begin others, some look like records.
var keys = []string{"\x00", "\x00\x00", "\n", "\n=\x00", "16 end=manifest\n", "=", "a", "a\x00", "ab", "a\xff", "b", "k", "\xff", "\xff\xff"}

func (t *texter) key() string {
	if t.below(6) == 0 {
		return t.text(1 + t.below(32))
	}
	return keys[t.below(len(keys))]
}

// meta is right metadata.
func (t *texter) meta() []api.Pair {
	var l []api.Pair
	for _, name := range []string{"-", "0", "a", "a-b", "ab", "sixteen-letters-", "x", "z"} {
		if t.below(3) == 0 {
			l = append(l, api.Pair{Name: name, Value: t.text(t.below(12))})
		}
	}
	return l
}

// data is of a length at or near an edge, and often has zeros at its ends, or
// looks like what an archive has behind it.
func (t *texter) data() string {
	n := []int{0, 1, 2, 30, 62, 63, 64, 65, 66, 126, 127, 128, 129, 200}[t.below(14)]
	if t.below(30) == 0 {
		n = 1000 + t.below(25)
	}
	switch t.below(6) {
	case 0:
		return times(n, "\x00")
	case 1:
		return t.text(n/2) + times(n-n/2, "\x00")
	case 2:
		return times(n/2, "\x00") + t.text(n-n/2)
	case 3:
		return times(1+n/73, rec("root", times(64, "0")))[:n]
	}
	return t.text(n)
}

// bucket is a right value of at most n versions from a number on.
func (t *texter) bucket(since int64, n int) api.Bucket {
	b := api.Bucket{Next: max(since, 1)}
	for range t.below(n + 1) {
		b.Next += int64(t.below(3))
		v := api.Version{Key: t.key(), Seq: b.Next, Marker: t.below(4) == 0}
		if !v.Marker {
			v.Data, v.Meta = t.data(), t.meta()
		}
		b.Next++
		b.Versions = append(b.Versions, v)
	}
	slices.SortFunc(b.Versions, func(a, b api.Version) int {
		if ahead(a, b) {
			return -1
		}
		return 1
	})
	b.Next += int64(t.below(3))
	return b
}

// right is a right value of at most n versions, and a number with which it may
// be packed.
func (t *texter) right(n int) (api.Bucket, int64) {
	since := int64(0)
	if t.below(2) == 0 {
		since = 1 + int64(t.number()%(1<<(1+t.below(39))))
	}
	return t.bucket(since, n), since
}

// spoil does one thing to a value or its number that may make it wrong.
func (t *texter) spoil(b *api.Bucket, since *int64) {
	l := []int64{least, -1, 0, 1, 2, *since, b.Next, maxNext, greatest, int64(t.number())}
	for _, v := range b.Versions {
		l = append(l, v.Seq)
	}
	near := l[t.below(len(l))] + int64(t.below(3)) - 1
	if len(b.Versions) == 0 || t.below(5) == 0 {
		if t.below(2) == 0 {
			b.Next = near
		} else {
			*since = near
		}
		return
	}
	v, w := &b.Versions[t.below(len(b.Versions))], &b.Versions[t.below(len(b.Versions))]
	switch t.below(10) {
	case 0:
		v.Seq = near
	case 1:
		v.Seq = w.Seq
	case 2:
		*v, *w = *w, *v
	case 3:
		v.Key = t.key()
	case 4:
		v.Key = t.text([]int{0, 1, 32, 33}[t.below(4)])
	case 5:
		v.Marker = !v.Marker
	case 6:
		v.Data = t.text([]int{0, 1, 1024, 1025}[t.below(4)])
	case 7:
		v.Meta = append(slices.Clone(v.Meta), api.Pair{Name: "zz", Value: t.text([]int{0, 64, 65}[t.below(3)])})
	case 8:
		v.Meta = slices.Clone(v.Meta)
		slices.Reverse(v.Meta)
	case 9:
		v.Data, w.Data = w.Data, v.Data
	}
}

// The chapter's calls, by its words.

func ahead(a, b api.Version) bool { return a.Key < b.Key || a.Key == b.Key && a.Seq < b.Seq }

// metaRight: is metadata right, by the words of chapter 12?
func metaRight(l []api.Pair) bool {
	for i, p := range l {
		if len(p.Name) < 1 || len(p.Name) > 16 || strings.ContainsFunc(p.Name, func(c rune) bool { return !strings.ContainsRune(small, c) }) || len(p.Value) > 64 {
			return false
		}
		if i > 0 && l[i-1].Name >= p.Name {
			return false
		}
	}
	return len(l) <= 8
}

// mayPack: may a value and a number be packed, by the words of chapter 17?
func mayPack(b api.Bucket, since int64) bool {
	if b.Next < 1 || b.Next > maxNext || since < 0 || since > b.Next || len(b.Versions) > 256 {
		return false
	}
	sum, seqs := 0, map[int64]int{}
	for i, v := range b.Versions {
		seqs[v.Seq]++
		switch {
		case len(v.Key) < 1 || len(v.Key) > 32:
			return false
		case v.Seq < 1 || v.Seq > b.Next-1 || v.Seq < since || seqs[v.Seq] == 2:
			return false
		case v.Marker && (v.Data != "" || len(v.Meta) != 0):
			return false
		case len(v.Data) > 1024 || !metaRight(v.Meta):
			return false
		case i > 0 && !ahead(b.Versions[i-1], v):
			return false
		}
		sum += 32 + len(v.Key) + len(v.Data)
		for _, p := range v.Meta {
			sum += len(p.Name) + len(p.Value)
		}
	}
	return sum <= 65536
}

// line is a record's key and value.
type line struct{ key, value string }

// rec is the record of a key and a value, by the words of chapter 4.
func rec(key, value string) string {
	n := len(key) + len(value) + 3
	for d := 1; ; d++ {
		if s := strconv.Itoa(n + d); len(s) == d {
			return s + " " + key + "=" + value + "\n"
		}
	}
}

func recs(l []line) string {
	var b strings.Builder
	for _, x := range l {
		b.WriteString(rec(x.key, x.value))
	}
	return b.String()
}

// bytesOf is a version's bytes, by the words of chapter 13.
func bytesOf(v api.Version) []byte {
	b := []byte{0}
	if v.Marker {
		b[0] = 1
	}
	b = binary.BigEndian.AppendUint64(b, uint64(v.Seq))
	b = append(append(b, byte(len(v.Key))), v.Key...)
	if v.Marker {
		return b
	}
	b = binary.BigEndian.AppendUint16(b, uint16(len(v.Data)))
	b = append(append(b, v.Data...), byte(len(v.Meta)))
	for _, p := range v.Meta {
		b = append(append(b, byte(len(p.Name))), p.Name...)
		b = append(append(b, byte(len(p.Value))), p.Value...)
	}
	return b
}

// leafOf and rootOf are a leaf and the root of leaves, by chapter 3's words and
// its P3.3, as digits.
func leafOf(v api.Version) string {
	h := sha256.Sum256(append([]byte{0}, bytesOf(v)...))
	return hex.EncodeToString(h[:])
}

func rootOf(leaves []string) string {
	if len(leaves) == 1 {
		return leaves[0]
	}
	b := []byte{2}
	if len(leaves) > 0 {
		k := 1
		for 2*k < len(leaves) {
			k *= 2
		}
		left, _ := hex.DecodeString(rootOf(leaves[:k]))
		right, _ := hex.DecodeString(rootOf(leaves[k:]))
		b = slices.Concat([]byte{1}, left, right)
	}
	h := sha256.Sum256(b)
	return hex.EncodeToString(h[:])
}

// parts are what an archive is made of, so that each may be changed: the
// manifest's records, the contents a version, and the trailer's records.
type parts struct {
	head     []line
	contents []string
	tail     []line
}

func (p parts) copy() parts {
	return parts{slices.Clone(p.head), slices.Clone(p.contents), slices.Clone(p.tail)}
}

func (p parts) body() string { return recs(p.head) + strings.Join(p.contents, "") }

func (p parts) text() string { return p.body() + recs(p.tail) }

// measured has the length that its parts ahead of the trailer have.
func (p parts) measured() parts {
	p = p.copy()
	p.tail[len(p.tail)-1].value = fmt.Sprint(len(p.body()))
	return p
}

// rooted has the root of the leaves that its manifest tells.
func (p parts) rooted() parts {
	p = p.copy()
	var leaves []string
	for _, x := range p.head {
		if x.key == "leaf" {
			leaves = append(leaves, x.value)
		}
	}
	p.tail[0].value = rootOf(leaves)
	return p
}

// at is the place of the record number n of this key in the manifest.
func (p parts) at(key string, n int) int {
	for i, x := range p.head {
		if x.key == key {
			if n == 0 {
				return i
			}
			n--
		}
	}
	panic("no such record")
}

// filled is data with its fill.
func filled(data string) string {
	for len(data)%64 != 0 {
		data += "\x00"
	}
	return data
}

// partsOf are the parts of a value's archive, be it right or not.
func partsOf(b api.Bucket, since int64) parts {
	p := parts{head: []line{{"kind", "full"}, {"format", "coffer-1"}, {"next", fmt.Sprint(b.Next)}}}
	if since != 0 {
		p.head[0].value = "delta"
		p.head = append(p.head, line{"since", fmt.Sprint(since)})
	}
	p.head = append(p.head, line{"count", fmt.Sprint(len(b.Versions))})
	for _, v := range b.Versions {
		p.head = append(p.head, line{"key", v.Key}, line{"seq", fmt.Sprint(v.Seq)})
		if v.Marker {
			p.head = append(p.head, line{"type", "marker"})
		} else {
			p.head = append(p.head, line{"type", "data"}, line{"size", fmt.Sprint(len(v.Data))})
		}
		for _, x := range v.Meta {
			p.head = append(p.head, line{"meta." + x.Name, x.Value})
		}
		p.head = append(p.head, line{"leaf", leafOf(v)})
		p.contents = append(p.contents, filled(v.Data))
	}
	p.head = append(p.head, line{"end", "manifest"})
	p.tail = []line{{"root", ""}, {"length", ""}}
	return p.rooted().measured()
}

func packOf(b api.Bucket, since int64) (string, api.Errno) {
	if !mayPack(b, since) {
		return "", 1
	}
	return partsOf(b, since).text(), 0
}

// cut is the first record of a text, and what is behind it.
func cut(b string) (key, value, rest string, found bool) {
	digits, _, _ := strings.Cut(b[:min(len(b), 20)], " ")
	n, err := strconv.Atoi(digits)
	if err != nil || n < 1 || n > len(b) || n <= len(digits) {
		return "", "", "", false
	}
	key, value, found = strings.Cut(b[len(digits)+1:n], "=")
	value = strings.TrimSuffix(value, "\n")
	return key, value, b[n:], found && rec(key, value) == b[:n]
}

// unpackOf gathers what the records up to the first end say, in whatever order
// and form they are, and the data behind them, and asks whether that is a value
// and a number whose archive the text is.
func unpackOf(s string) (api.Bucket, int64, api.Errno) {
	var b api.Bucket
	var since int64
	var sizes []int
	rest, key := s, ""
	for key != "end" {
		var value string
		var found bool
		key, value, rest, found = cut(rest)
		if !found {
			return api.Bucket{}, 0, 90
		}
		last := len(b.Versions) - 1
		number, _ := strconv.ParseInt(value, 10, 64)
		name, isMeta := strings.CutPrefix(key, "meta.")
		switch {
		case key == "next":
			b.Next = number
		case key == "since":
			since = number
		case key == "key":
			b.Versions, sizes = append(b.Versions, api.Version{Key: value}), append(sizes, 0)
		case last < 0:
		case key == "seq":
			b.Versions[last].Seq = number
		case key == "type":
			b.Versions[last].Marker = value == "marker"
		case key == "size":
			sizes[last] = int(number)
		case isMeta:
			b.Versions[last].Meta = append(b.Versions[last].Meta, api.Pair{Name: name, Value: value})
		}
	}
	for i, size := range sizes {
		if size < 0 || size > len(rest) {
			return api.Bucket{}, 0, 90
		}
		b.Versions[i].Data = rest[:size]
		rest = rest[min(len(filled(rest[:size])), len(rest)):]
	}
	if told, err := packOf(b, since); err != 0 || told != s {
		return api.Bucket{}, 0, 90
	}
	return b, since, 0
}

func decodeOf(s string) (api.Bucket, api.Errno) {
	if b, since, err := unpackOf(s); err == 0 && since == 0 {
		return b, 0
	}
	return api.Bucket{}, 90
}

func sameVersion(a, b api.Version) bool {
	return a.Key == b.Key && a.Seq == b.Seq && a.Marker == b.Marker && a.Data == b.Data && slices.Equal(a.Meta, b.Meta)
}

func same(a, b api.Bucket) bool {
	return a.Next == b.Next && slices.EqualFunc(a.Versions, b.Versions, sameVersion)
}

// short is a value as an error tells it.
func short(b api.Bucket) string {
	s := fmt.Sprintf("{Next %d, %d versions:", b.Next, len(b.Versions))
	for _, v := range b.Versions[:min(len(b.Versions), 4)] {
		s += fmt.Sprintf(" {%.40q %d %v, %d bytes %.40q, %d pairs %.200q}", v.Key, v.Seq, v.Marker, len(v.Data), v.Data, len(v.Meta), v.Meta)
	}
	return s + "}"
}

// pairs are made of names and values in turn.
func pairs(s ...string) []api.Pair {
	var l []api.Pair
	for i := 0; i < len(s); i += 2 {
		l = append(l, api.Pair{Name: s[i], Value: s[i+1]})
	}
	return l
}

func times(n int, letter string) string { return strings.Repeat(letter, n) }

// of is a value of these versions.
func of(next int64, l ...api.Version) api.Bucket { return api.Bucket{Next: next, Versions: l} }

// data and gone are versions of each kind.
func data(key string, seq int64, text string, l ...api.Pair) api.Version {
	return api.Version{Key: key, Seq: seq, Data: text, Meta: l}
}

func gone(key string, seq int64) api.Version { return api.Version{Key: key, Seq: seq, Marker: true} }

// list is n versions of one key, the numbers from 1 on, all with this data, or
// markers.
func list(n int, text string, marker bool) []api.Version {
	var l []api.Version
	for i := range n {
		l = append(l, api.Version{Key: "k", Seq: int64(i) + 1, Data: text, Marker: marker})
	}
	return l
}
