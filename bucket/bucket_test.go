package bucket_test

import (
	"cmp"
	"fmt"
	"math"
	"slices"
	"strings"
	"sync"
	"testing"
	"unsafe"

	"coffer/api"
	"coffer/bucket"
	"coffer/names"
)

const (
	least    = math.MinInt64
	greatest = math.MaxInt64
)

// texter tells numbers and texts that look like chance and are the same each time.
type texter struct{ x uint64 }

func (t *texter) number() uint64 {
	t.x += 0x9e3779b97f4a7c15
	z := t.x
	z = (z ^ z>>30) * 0xbf58476d1ce4e5b9
	z = (z ^ z>>27) * 0x94d049bb133111eb
	return z ^ z>>31
}

func (t *texter) below(n int) int { return int(t.number() % uint64(n)) }

// text has n bytes of all kinds.
func (t *texter) text(n int) string {
	b := make([]byte, n)
	for i := range b {
		b[i] = byte(t.number())
	}
	return string(b)
}

// key is a right key; most are few and short ones of which some begin others.
func (t *texter) key() string {
	if t.below(12) == 0 {
		return t.text(1 + t.below(api.MaxKey))
	}
	return keys[t.below(len(keys))]
}

// keys rise, as bytes.
var keys = []string{"\x00", "\x00\x00", "\x00\xff", "a", "a\x00", "a\x00b", "ab", "a\xff", "b", "k", "\xff", "\xff\x00", "\xff\xff"}

// meta is right metadata.
func (t *texter) meta() []api.Pair {
	var l []api.Pair
	for _, name := range []string{"-", "0", "a", "a-b", "ab", "z"} {
		if t.below(5) == 0 {
			l = append(l, api.Pair{Name: name, Value: t.text(t.below(6))})
		}
	}
	return l
}

// value is a right value of at most n versions, made by the chapter's words.
func (t *texter) value(n int) api.Bucket {
	b := api.Bucket{Next: 1}
	for range t.below(n + 1) {
		b.Next += int64(t.below(3))
		if t.below(4) == 0 {
			b, _, _ = deleteOf(b, t.key())
		} else {
			b, _, _ = putOf(b, t.key(), t.text(t.below(20)), t.meta())
		}
	}
	b.Next += int64(t.below(3))
	return b
}

// any is a value that is hardly ever right.
func (t *texter) any(n int) api.Bucket {
	edges := []int64{least, -1, 0, 1, 2, 5, api.MaxSeq, api.MaxSeq + 1, api.MaxSeq + 2, greatest}
	b := api.Bucket{Next: edges[t.below(len(edges))]}
	for range n {
		v := api.Version{Key: t.key(), Seq: int64(t.below(9)) - 2, Marker: t.below(3) == 0, Data: t.text(t.below(9))}
		switch t.below(8) {
		case 0:
			v.Key = ""
		case 1:
			v.Key = t.text(40)
		case 2:
			v.Seq = edges[t.below(len(edges))]
		}
		for range t.below(3) {
			v.Meta = append(v.Meta, api.Pair{Name: t.text(t.below(3)), Value: t.text(t.below(5))})
		}
		b.Versions = append(b.Versions, v)
	}
	return b
}

func pairs(l ...api.Pair) []api.Pair { return l }

func rows(l ...api.Row) []api.Row { return l }

// of is a value of these versions.
func of(next int64, l ...api.Version) api.Bucket { return api.Bucket{Next: next, Versions: l} }

// v is a version with the key's and the number's digits as data.
func v(key string, seq int64) api.Version {
	return api.Version{Key: key, Seq: seq, Data: fmt.Sprint(key, seq), Meta: pairs(api.Pair{Name: "n", Value: fmt.Sprint(seq)})}
}

// gone is a marker.
func gone(key string, seq int64) api.Version { return api.Version{Key: key, Seq: seq, Marker: true} }

// row is the row of a version.
func row(v api.Version) api.Row {
	return api.Row{Key: v.Key, Seq: v.Seq, Marker: v.Marker, Size: len(v.Data)}
}

func same(a, b api.Version) bool {
	return a.Key == b.Key && a.Seq == b.Seq && a.Marker == b.Marker && a.Data == b.Data && slices.Equal(a.Meta, b.Meta)
}

func sameValue(a, b api.Bucket) bool {
	return a.Next == b.Next && slices.EqualFunc(a.Versions, b.Versions, same)
}

// The chapter's calls, by its words.

// ahead: does one version stand ahead of another in canonical order?
func ahead(a, b api.Version) bool { return a.Key < b.Key || a.Key == b.Key && a.Seq < b.Seq }

// sizeOf is a version's size, by layer 12's words.
func sizeOf(v api.Version) int64 {
	n := 32 + len(v.Key) + len(v.Data)
	for _, p := range v.Meta {
		n += len(p.Name) + len(p.Value)
	}
	return int64(n)
}

func bytesOf(b api.Bucket) int64 {
	n := int64(0)
	for _, v := range b.Versions {
		n += sizeOf(v)
	}
	return n
}

func rightOf(b api.Bucket) bool {
	if b.Next < 1 || b.Next > 1099511627777 || len(b.Versions) > 256 || bytesOf(b) > 65536 {
		return false
	}
	has := map[int64]int{}
	for i, v := range b.Versions {
		has[v.Seq]++
		switch {
		case has[v.Seq] > 1, v.Seq < 1, v.Seq > b.Next-1, i > 0 && !ahead(b.Versions[i-1], v):
			return false
		case names.Key(v.Key) != 0, names.Data(v.Data) != 0, names.Meta(v.Meta) != 0:
			return false
		case v.Marker && (v.Data != "" || len(v.Meta) > 0):
			return false
		}
	}
	return true
}

func addOf(b api.Bucket, v api.Version) (api.Bucket, int64, api.Errno) {
	switch v.Seq = b.Next; {
	case len(v.Key) < 1 || len(v.Key) > 32:
		return api.Bucket{}, 0, 61
	case len(v.Data) > 1024:
		return api.Bucket{}, 0, 63
	case names.Meta(v.Meta) != 0:
		return api.Bucket{}, 0, 62
	case b.Next == 1099511627777:
		return api.Bucket{}, 0, 74
	case len(b.Versions) == 256:
		return api.Bucket{}, 0, 75
	case bytesOf(b)+sizeOf(v) > 65536:
		return api.Bucket{}, 0, 76
	}
	l := append(slices.Clone(b.Versions), v)
	slices.SortFunc(l, func(a, b api.Version) int {
		if ahead(a, b) {
			return -1
		}
		return 1
	})
	return api.Bucket{Next: b.Next + 1, Versions: l}, b.Next, 0
}

func putOf(b api.Bucket, key, data string, meta []api.Pair) (api.Bucket, int64, api.Errno) {
	return addOf(b, api.Version{Key: key, Data: data, Meta: meta})
}

func deleteOf(b api.Bucket, key string) (api.Bucket, int64, api.Errno) {
	return addOf(b, api.Version{Key: key, Marker: true})
}

func deleteVersionOf(b api.Bucket, key string, seq int64) (api.Bucket, api.Errno) {
	if len(key) < 1 || len(key) > 32 {
		return api.Bucket{}, 61
	}
	for i, v := range b.Versions {
		if v.Key == key && v.Seq == seq {
			return api.Bucket{Next: b.Next, Versions: slices.Concat(b.Versions[:i], b.Versions[i+1:])}, 0
		}
	}
	return api.Bucket{}, 72
}

func getOf(b api.Bucket, key string) (newest api.Version, err api.Errno) {
	if len(key) < 1 || len(key) > 32 {
		return api.Version{}, 61
	}
	for _, v := range b.Versions {
		if v.Key == key && v.Seq > newest.Seq {
			newest = v
		}
	}
	switch {
	case newest.Seq == 0:
		return api.Version{}, 72
	case newest.Marker:
		return api.Version{}, 73
	}
	return newest, 0
}

func getVersionOf(b api.Bucket, key string, seq int64) (api.Version, api.Errno) {
	if len(key) < 1 || len(key) > 32 {
		return api.Version{}, 61
	}
	for _, v := range b.Versions {
		if v.Key == key && v.Seq == seq {
			return v, 0
		}
	}
	return api.Version{}, 72
}

// keysOf are a value's keys from a text on, each once, rising.
func keysOf(b api.Bucket, from string) []string {
	var l []string
	for _, v := range b.Versions {
		if v.Key >= from && !slices.Contains(l, v.Key) {
			l = append(l, v.Key)
		}
	}
	slices.Sort(l)
	return l
}

// mostOf are the first of some rows, as many as a call may tell.
func mostOf(l []api.Row, most int) []api.Row { return l[:max(0, min(len(l), most, 256))] }

func listOf(b api.Bucket, from string, most int) []api.Row {
	var l []api.Row
	for _, key := range keysOf(b, from) {
		if v, err := getOf(b, key); err == 0 {
			l = append(l, row(v))
		}
	}
	return mostOf(l, most)
}

func versionsOf(b api.Bucket, from string, most int) []api.Row {
	var l []api.Row
	for _, key := range keysOf(b, from) {
		var its []api.Row
		for _, v := range b.Versions {
			if v.Key == key {
				its = append(its, row(v))
			}
		}
		slices.SortFunc(its, func(a, b api.Row) int { return cmp.Compare(b.Seq, a.Seq) })
		l = append(l, its...)
	}
	return mostOf(l, most)
}

// short is a value as an error tells it.
func short(b api.Bucket) string {
	var s strings.Builder
	fmt.Fprintf(&s, "{%d", b.Next)
	for i, v := range b.Versions {
		if i == 10 {
			fmt.Fprintf(&s, " .. %d in all", len(b.Versions))
			break
		}
		s.WriteString(" " + shortVersion(v))
	}
	return s.String() + "}"
}

func shortVersion(v api.Version) string {
	return fmt.Sprintf("{%.8q %d %v %.12q %.40q}", v.Key, v.Seq, v.Marker, v.Data, v.Meta)
}

// shortRows are rows as an error tells them.
func shortRows(l []api.Row) string {
	return fmt.Sprintf("%.300s (%d)", fmt.Sprintf("%+v", l), len(l))
}

func wantRight(t *testing.T, what string, b api.Bucket, want bool) {
	t.Helper()
	if got := bucket.Right(b); got != want {
		t.Errorf("P15.1: %s: Right(%s) = %v, want %v", what, short(b), got, want)
	}
}

func wantPut(t *testing.T, what string, b api.Bucket, key, data string, meta []api.Pair, want api.Bucket, wantSeq int64, wantErr api.Errno) {
	t.Helper()
	if got, seq, err := bucket.Put(b, key, data, meta); !sameValue(got, want) || seq != wantSeq || err != wantErr {
		t.Errorf("P15.1: %s: Put(%s, %.8q, %.8q, %.20q) = %s, %d, %d, want %s, %d, %d", what, short(b), key, data, meta, short(got), seq, err, short(want), wantSeq, wantErr)
	}
}

func wantDelete(t *testing.T, what string, b api.Bucket, key string, want api.Bucket, wantSeq int64, wantErr api.Errno) {
	t.Helper()
	if got, seq, err := bucket.Delete(b, key); !sameValue(got, want) || seq != wantSeq || err != wantErr {
		t.Errorf("P15.1: %s: Delete(%s, %.8q) = %s, %d, %d, want %s, %d, %d", what, short(b), key, short(got), seq, err, short(want), wantSeq, wantErr)
	}
}

func wantDeleteVersion(t *testing.T, what string, b api.Bucket, key string, seq int64, want api.Bucket, wantErr api.Errno) {
	t.Helper()
	if got, err := bucket.DeleteVersion(b, key, seq); !sameValue(got, want) || err != wantErr {
		t.Errorf("P15.1: %s: DeleteVersion(%s, %.8q, %d) = %s, %d, want %s, %d", what, short(b), key, seq, short(got), err, short(want), wantErr)
	}
}

func wantGet(t *testing.T, what string, b api.Bucket, key string, want api.Version, wantErr api.Errno) {
	t.Helper()
	if got, err := bucket.Get(b, key); !same(got, want) || err != wantErr {
		t.Errorf("P15.1: %s: Get(%s, %.8q) = %s, %d, want %s, %d", what, short(b), key, shortVersion(got), err, shortVersion(want), wantErr)
	}
}

func wantGetVersion(t *testing.T, what string, b api.Bucket, key string, seq int64, want api.Version, wantErr api.Errno) {
	t.Helper()
	if got, err := bucket.GetVersion(b, key, seq); !same(got, want) || err != wantErr {
		t.Errorf("P15.1: %s: GetVersion(%s, %.8q, %d) = %s, %d, want %s, %d", what, short(b), key, seq, shortVersion(got), err, shortVersion(want), wantErr)
	}
}

func wantList(t *testing.T, what string, b api.Bucket, from string, most int, want []api.Row) {
	t.Helper()
	if got := bucket.List(b, from, most); !slices.Equal(got, want) {
		t.Errorf("P15.1: %s: List(%s, %.8q, %d) = %s, want %s", what, short(b), from, most, shortRows(got), shortRows(want))
	}
}

func wantVersions(t *testing.T, what string, b api.Bucket, from string, most int, want []api.Row) {
	t.Helper()
	if got := bucket.Versions(b, from, most); !slices.Equal(got, want) {
		t.Errorf("P15.1: %s: Versions(%s, %.8q, %d) = %s, want %s", what, short(b), from, most, shortRows(got), shortRows(want))
	}
}

func wantBytes(t *testing.T, what string, b api.Bucket, want int64) {
	t.Helper()
	if got := bucket.Bytes(b); got != want {
		t.Errorf("P15.1: %s: Bytes(%s) = %d, want %d", what, short(b), got, want)
	}
}

// wantCalls: every call of a right value answers as the chapter says of a key
// and a number.
func wantCalls(t *testing.T, what string, b api.Bucket, key, data string, meta []api.Pair, seq int64) {
	t.Helper()
	more, n, err := putOf(b, key, data, meta)
	wantPut(t, what, b, key, data, meta, more, n, err)
	more, n, err = deleteOf(b, key)
	wantDelete(t, what, b, key, more, n, err)
	less, err := deleteVersionOf(b, key, seq)
	wantDeleteVersion(t, what, b, key, seq, less, err)
	got, err := getOf(b, key)
	wantGet(t, what, b, key, got, err)
	got, err = getVersionOf(b, key, seq)
	wantGetVersion(t, what, b, key, seq, got, err)
}

// wantLists: all that is told of a whole right value is as the chapter says.
func wantLists(t *testing.T, what string, b api.Bucket, from string, most int) {
	t.Helper()
	wantList(t, what, b, from, most, listOf(b, from, most))
	wantVersions(t, what, b, from, most, versionsOf(b, from, most))
	wantBytes(t, what, b, bytesOf(b))
	wantRight(t, what, b, rightOf(b))
}

// sized is a version of a size.
func sized(key string, seq, size int64) api.Version {
	return api.Version{Key: key, Seq: seq, Data: strings.Repeat("d", int(size)-32-len(key))}
}

// filled is a value of n versions that have just so many bytes together.
func filled(t *testing.T, n int, size int64) api.Bucket {
	t.Helper()
	b := api.Bucket{Next: int64(n) + 1}
	for i := range int64(n) {
		// The keys are not in the order of the numbers.
		key := fmt.Sprintf("%03d", i*7%int64(n)/2)
		b.Versions = append(b.Versions, sized(key, i+1, size/int64(n)+(i+1)*(size%int64(n))/int64(n)-i*(size%int64(n))/int64(n)))
	}
	slices.SortFunc(b.Versions, func(a, b api.Version) int {
		return cmp.Or(strings.Compare(a.Key, b.Key), cmp.Compare(a.Seq, b.Seq))
	})
	if bytesOf(b) != size || len(b.Versions) != n {
		t.Fatalf("%d versions of %d bytes are %d of %d", n, size, len(b.Versions), bytesOf(b))
	}
	return b
}

// values are right values of all kinds.
func values(t *testing.T) map[string]api.Bucket {
	return map[string]api.Bucket{
		"none":                      {Next: 1},
		"none, not nil":             {Next: 1, Versions: []api.Version{}},
		"none any more":             {Next: 9},
		"none, MaxSeq":              {Next: api.MaxSeq},
		"none, above MaxSeq":        {Next: api.MaxSeq + 1},
		"one":                       of(2, v("k", 1)),
		"one, later":                of(9, v("k", 5)),
		"one, MaxSeq":               of(api.MaxSeq+1, v("k", api.MaxSeq)),
		"one below MaxSeq":          of(api.MaxSeq, v("k", api.MaxSeq-1)),
		"a marker":                  of(2, gone("k", 1)),
		"two":                       of(3, v("k", 1), v("k", 2)),
		"a marker newest":           of(4, v("k", 1), v("k", 2), gone("k", 3)),
		"a marker oldest":           of(4, gone("k", 1), v("k", 2), v("k", 3)),
		"a marker within":           of(4, v("k", 1), gone("k", 2), v("k", 3)),
		"markers alone":             of(8, gone("k", 1), gone("k", 2), gone("k", 7)),
		"keys against numbers":      of(5, v("a", 4), v("b", 3), v("c", 2), v("d", 1)),
		"keys of which begin some":  of(9, v("a", 3), v("a", 8), v("a\x00", 5), v("a\x00\x00", 2), v("ab", 7), gone("a\xff", 4), v("b", 1)),
		"bytes 0 and 255":           of(9, v("\x00", 8), v("\x00\x00", 7), v("\x00\xff", 6), v("k", 5), v("\xff", 4), v("\xff\x00", 3), v("\xff\xff", 2)),
		"long keys":                 of(5, v(strings.Repeat("k", 31), 4), v(strings.Repeat("k", 32), 2), v(strings.Repeat("k", 31)+"l", 1)),
		"much data":                 of(3, api.Version{Key: "k", Seq: 1, Data: strings.Repeat("d", 1024)}, api.Version{Key: "k", Seq: 2}),
		"one less than MaxCount":    filled(t, 255, 10000),
		"MaxCount":                  filled(t, 256, 10000),
		"one less than MaxBytes":    filled(t, 70, 65535),
		"MaxBytes":                  filled(t, 70, 65536),
		"MaxCount of MaxBytes":      filled(t, 256, 65536),
		"MaxBytes, just under both": filled(t, 255, 65536-33),
	}
}

// wrong are values that are not right, each in one way.
func wrong(t *testing.T) map[string]api.Bucket {
	marked := func(v api.Version) api.Version { v.Marker = true; return v }
	meta := func(l ...api.Pair) api.Bucket { return of(9, api.Version{Key: "k", Seq: 1, Meta: l}) }
	nine := make([]api.Pair, 9)
	for i := range nine {
		nine[i].Name = fmt.Sprint(i)
	}
	return map[string]api.Bucket{
		"zero":                      {},
		"Next 0":                    {Next: 0, Versions: []api.Version{}},
		"Next below 0":              {Next: -1},
		"Next least":                {Next: least},
		"Next two above MaxSeq":     {Next: api.MaxSeq + 2},
		"Next greatest":             {Next: greatest},
		"keys falling":              of(3, v("b", 1), v("a", 2)),
		"keys falling, the numbers": of(3, v("b", 2), v("a", 1)),
		"behind what it begins":     of(3, v("ab", 1), v("a", 2)),
		"255 ahead of 0":            of(3, v("\xff", 1), v("\x00", 2)),
		"a key apart":               of(4, v("a", 1), v("b", 2), v("a", 3)),
		"numbers falling":           of(9, v("k", 2), v("k", 1)),
		"a version twice":           of(9, v("k", 2), v("k", 2)),
		"a number twice":            of(9, v("j", 2), v("k", 2)),
		"a number twice, apart":     of(9, v("a", 2), v("b", 1), v("c", 3), v("d", 2)),
		"a number twice, a marker":  of(9, v("j", 2), gone("k", 2)),
		"number 0":                  of(9, v("k", 0)),
		"a number below 0":          of(9, v("k", -1)),
		"the least number":          of(9, v("k", least)),
		"a number that is Next":     of(2, v("k", 2)),
		"a number above Next":       of(2, v("k", 3)),
		"number 1 of none":          of(1, v("k", 1)),
		"a number above MaxSeq":     of(api.MaxSeq+1, v("k", api.MaxSeq+1)),
		"the first number wrong":    of(9, v("a", 9), v("b", 1)),
		"the last number wrong":     of(9, v("a", 1), v("b", 9)),
		"no key":                    of(9, v("", 1)),
		"a key of 33":               of(9, v(strings.Repeat("k", 33), 1)),
		"a key of 33 behind":        of(9, v("k", 1), v(strings.Repeat("k", 33), 2)),
		"data of 1025":              of(9, api.Version{Key: "k", Seq: 1, Data: strings.Repeat("d", 1025)}),
		"pairs falling":             meta(api.Pair{Name: "b"}, api.Pair{Name: "a"}),
		"a pair's name twice":       meta(api.Pair{Name: "a", Value: "x"}, api.Pair{Name: "a", Value: "y"}),
		"a pair without a name":     meta(api.Pair{Value: "x"}),
		"a pair's great letter":     meta(api.Pair{Name: "A"}),
		"a pair's name of 17":       meta(api.Pair{Name: strings.Repeat("a", 17)}),
		"a pair's value of 65":      meta(api.Pair{Name: "a", Value: strings.Repeat("x", 65)}),
		"nine pairs":                meta(nine...),
		"a marker with data":        of(9, marked(api.Version{Key: "k", Seq: 1, Data: "d"})),
		"a marker with metadata":    of(9, marked(api.Version{Key: "k", Seq: 1, Meta: nine[:1]})),
		"one more than MaxCount":    filled(t, 257, 10000),
		"two times MaxCount":        filled(t, 512, 20000),
		"one above MaxBytes":        filled(t, 70, 65537),
		"one above it, MaxCount":    filled(t, 256, 65537),
		"two times MaxBytes":        filled(t, 140, 2*65536),
	}
}

func TestExamples(t *testing.T) {
	one := api.Version{Key: "k", Seq: 1, Data: "one"}
	two := api.Version{Key: "k", Seq: 2, Data: "two", Meta: pairs(api.Pair{Name: "a", Value: "b"})}
	b := bucket.New()
	wantPut(t, "example 1", b, "k", "one", nil, of(2, one), 1, api.OK)
	b, _, _ = bucket.Put(b, "k", "one", nil)
	wantPut(t, "example 1", b, "k", "two", two.Meta, of(3, one, two), 2, api.OK)
	b, _, _ = bucket.Put(b, "k", "two", two.Meta)
	wantGet(t, "example 1", b, "k", two, api.OK)
	wantGetVersion(t, "example 1", b, "k", 1, one, api.OK)
	wantDelete(t, "example 1", b, "k", of(4, one, two, gone("k", 3)), 3, api.OK)
	deleted, _, _ := bucket.Delete(b, "k")
	wantGet(t, "example 1", deleted, "k", api.Version{}, api.ErrGone)
	wantGetVersion(t, "example 1", deleted, "k", 3, gone("k", 3), api.OK)
	wantDeleteVersion(t, "example 1", deleted, "k", 3, of(4, one, two), api.OK)
	b, _ = bucket.DeleteVersion(deleted, "k", 3)
	wantGet(t, "example 1", b, "k", two, api.OK)
	wantPut(t, "example 1", b, "k", "", nil, of(5, one, two, api.Version{Key: "k", Seq: 4}), 4, api.OK)

	l := of(5, v("a", 2), v("a\x00", 4), v("ab", 1), v("b", 3))
	c := bucket.New()
	for _, key := range []string{"ab", "a", "b", "a\x00"} {
		c, _, _ = bucket.Put(c, key, fmt.Sprint(key, c.Next), pairs(api.Pair{Name: "n", Value: fmt.Sprint(c.Next)}))
	}
	if !sameValue(c, l) {
		t.Errorf("P15.1: example 2: %s, want %s", short(c), short(l))
	}
	wantList(t, "example 2", c, "a\x00", 2, rows(row(l.Versions[1]), row(l.Versions[2])))
	wantList(t, "example 2", c, "", 0, nil)
	wantVersions(t, "example 2", deleted, "k", 9, rows(row(gone("k", 3)), row(two), row(one)))

	zero := api.Bucket{}
	wantPut(t, "example 3", b, "", "", nil, zero, 0, api.ErrKey)
	wantPut(t, "example 3", b, strings.Repeat("k", 33), "", nil, zero, 0, api.ErrKey)
	wantPut(t, "example 3", b, "k", strings.Repeat("d", 1025), nil, zero, 0, api.ErrData)
	wantPut(t, "example 3", b, "k", "", pairs(api.Pair{Name: "b", Value: "x"}, api.Pair{Name: "a", Value: "y"}), zero, 0, api.ErrMeta)
	wantDeleteVersion(t, "example 3", b, "k", 9, zero, api.ErrVersion)

	b.Next = 1099511627777
	wantPut(t, "example 4", b, "k", "", nil, zero, 0, api.ErrSeq)
	wantDelete(t, "example 4", b, "k", zero, 0, api.ErrSeq)
	wantDeleteVersion(t, "example 4", b, "k", 1, of(1099511627777, two), api.OK)
	full := filled(t, 256, 10000)
	wantPut(t, "example 4", full, "k", "", nil, zero, 0, api.ErrCount)
	wantDelete(t, "example 4", full, "k", zero, 0, api.ErrCount)
}

// TestNew: empty, Next 1, and right.
func TestNew(t *testing.T) {
	if b := bucket.New(); b.Next != 1 || len(b.Versions) != 0 || !bucket.Right(b) {
		t.Errorf("P15.1: New() = %s, right: %v", short(b), bucket.Right(b))
	}
}

// TestRight: right values of all kinds, and those that are not so in one way.
func TestRight(t *testing.T) {
	for what, b := range values(t) {
		wantRight(t, what, b, true)
		if !rightOf(b) {
			t.Errorf("%s: the test's own words say no", what)
		}
	}
	for what, b := range wrong(t) {
		wantRight(t, what, b, false)
		if rightOf(b) {
			t.Errorf("%s: the test's own words say yes", what)
		}
	}
	for n := range 300 {
		wantRight(t, "so many versions", filled(t, max(n, 1), int64(max(n, 1))*40), n <= 256)
	}
	for size := int64(65500); size < 65570; size++ {
		wantRight(t, "so many bytes", filled(t, 100, size), size <= 65536)
		wantBytes(t, "so many bytes", filled(t, 100, size), size)
	}
	for _, n := range []int{7, 8, 9} {
		meta := make([]api.Pair, n)
		for i := range meta {
			meta[i] = api.Pair{Name: strings.Repeat("n", 15) + fmt.Sprint(i), Value: strings.Repeat("\xff", 64)}
		}
		wantRight(t, "so many pairs", of(2, api.Version{Key: "k", Seq: 1, Meta: meta}), n <= 8)
	}
	huge := make([]api.Version, 1<<20)
	wantRight(t, "very many zero versions", of(9, huge...), false)
}

// TestErrors: of all errors that apply the first that is named.
func TestErrors(t *testing.T) {
	long := strings.Repeat("d", 1025)
	bad := pairs(api.Pair{Name: "B"})
	// By which of ErrSeq (4), ErrCount (2) and ErrBytes (1) of a version of one
	// byte as key and one as data apply; and of a marker just the same.
	var bases [8]api.Bucket
	bases[0], bases[1], bases[2], bases[3] = filled(t, 99, 9999), filled(t, 64, 65536-32), filled(t, 256, 9999), filled(t, 256, 65536-32)
	for i := range 4 {
		bases[i+4] = bases[i]
		bases[i+4].Next = api.MaxSeq + 1
	}
	for i, b := range bases {
		if !rightOf(b) {
			t.Fatalf("base %d is not right", i)
		}
		var room api.Errno
		switch {
		case i&4 > 0:
			room = api.ErrSeq
		case i&2 > 0:
			room = api.ErrCount
		case i&1 > 0:
			room = api.ErrBytes
		}
		for _, key := range []string{"", "k", strings.Repeat("k", 33)} {
			for _, data := range []string{"d", long} {
				for _, meta := range [][]api.Pair{nil, bad} {
					want := room
					switch {
					case key != "k":
						want = api.ErrKey
					case data == long:
						want = api.ErrData
					case len(meta) > 0:
						want = api.ErrMeta
					}
					got, seq, err := bucket.Put(b, key, data, meta)
					if err != want || err != 0 && (seq != 0 || !sameValue(got, api.Bucket{})) {
						t.Errorf("P15.1: base %d: Put(%.8q, %.8q, %q) = %s, %d, %d, want %d", i, key, data, meta, short(got), seq, err, want)
					}
				}
			}
			want := room
			if key != "k" {
				want = api.ErrKey
			}
			got, seq, err := bucket.Delete(b, key)
			if err != want || err != 0 && (seq != 0 || !sameValue(got, api.Bucket{})) {
				t.Errorf("P15.1: base %d: Delete(%.8q) = %s, %d, %d, want %d", i, key, short(got), seq, err, want)
			}
		}
	}
}

// TestRefusedKeys: a key that isn't right is refused by each call that takes one,
// ahead of all; beside an error there is nothing.
func TestRefusedKeys(t *testing.T) {
	b := of(9, v("k", 1), gone("l", 2), v(strings.Repeat("m", 32), 3))
	for _, key := range []string{"", strings.Repeat("k", 33), strings.Repeat("m", 33), strings.Repeat("\x00", 1000)} {
		wantPut(t, "no key", b, key, "", nil, api.Bucket{}, 0, api.ErrKey)
		wantDelete(t, "no key", b, key, api.Bucket{}, 0, api.ErrKey)
		wantGet(t, "no key", b, key, api.Version{}, api.ErrKey)
		for _, seq := range []int64{least, 0, 1, 2, 3, greatest} {
			wantDeleteVersion(t, "no key", b, key, seq, api.Bucket{}, api.ErrKey)
			wantGetVersion(t, "no key", b, key, seq, api.Version{}, api.ErrKey)
		}
	}
	wantGet(t, "a marker", b, "l", api.Version{}, api.ErrGone)
	wantGet(t, "none", b, "n", api.Version{}, api.ErrVersion)
	wantGet(t, "none, of none", bucket.New(), "n", api.Version{}, api.ErrVersion)
	wantGet(t, "32 bytes", b, strings.Repeat("m", 32), b.Versions[2], api.OK)
	wantGetVersion(t, "another's number", b, "k", 2, api.Version{}, api.ErrVersion)
	wantDeleteVersion(t, "another's number", b, "k", 3, api.Bucket{}, api.ErrVersion)
}

// TestLimits: data, metadata and room at their edges.
func TestLimits(t *testing.T) {
	b := of(2, v("j", 1))
	long := strings.Repeat("\x00", 1024)
	eight := make([]api.Pair, 8)
	for i := range eight {
		eight[i] = api.Pair{Name: strings.Repeat("n", 15) + fmt.Sprint(i), Value: strings.Repeat("\xff", 64)}
	}
	for _, key := range []string{"k", "\x00", "\xff", strings.Repeat("\xff", 32)} {
		wantCalls(t, "greatest", b, key, long, eight, 1)
		wantCalls(t, "too much data", b, key, long+"d", eight, 1)
		wantCalls(t, "too many pairs", b, key, long, append(slices.Clone(eight), api.Pair{Name: "z"}), 1)
	}
	for n := 253; n <= 256; n++ {
		wantCalls(t, "count", filled(t, n, 9999), "000", "d", nil, 1)
		wantCalls(t, "count", filled(t, n, 9999), "a new one", "d", nil, 1)
	}
	// A marker of the key "k" has 33 bytes.
	for size := int64(65536 - 40); size <= 65536; size++ {
		full := filled(t, 70, size)
		for n := range 5 {
			wantCalls(t, "bytes", full, "k", strings.Repeat("d", n), nil, 1)
			wantCalls(t, "bytes", full, "k", "", pairs(api.Pair{Name: "n", Value: strings.Repeat("v", n)}), 1)
		}
		if _, _, err := bucket.Delete(full, "k"); (err == api.OK) != (size+33 <= 65536) {
			t.Errorf("P15.1: a marker of 33 bytes on %d: %d", size, err)
		}
	}
	for next := int64(api.MaxSeq - 2); next <= api.MaxSeq+1; next++ {
		at := of(next, v("j", 1), v("k", 2))
		wantCalls(t, "Next", at, "k", "d", nil, 2)
		if got, seq, err := bucket.Put(at, "k", "d", nil); next <= api.MaxSeq && (seq != next || got.Next != next+1 || err != api.OK) {
			t.Errorf("P15.1: Put at Next %d: %s, %d, %d", next, short(got), seq, err)
		}
	}
}

// TestPutAndDelete: of keys that have none, whose newest is a marker, and others.
func TestPutAndDelete(t *testing.T) {
	b := of(9, v("b", 7), gone("d", 2), v("f", 1), gone("f", 4), gone("h", 3), v("h", 5))
	for _, key := range []string{"a", "b", "b\x00", "c", "d", "e", "f", "g", "h", "h\x00", "i", "\x00", "\xff"} {
		wantCalls(t, "one more", b, key, "data", pairs(api.Pair{Name: "a", Value: "b"}), 1)
		for seq := int64(-1); seq < 11; seq++ {
			wantCalls(t, "one more", b, key, "", nil, seq)
		}
	}
	nine := api.Version{Key: "d", Seq: 9, Data: "x"}
	wantPut(t, "on a marker", b, "d", "x", nil, of(10, b.Versions[0], b.Versions[1], nine, b.Versions[2], b.Versions[3], b.Versions[4], b.Versions[5]), 9, api.OK)
	wantDelete(t, "on a marker", of(3, gone("k", 2)), "k", of(4, gone("k", 2), gone("k", 3)), 3, api.OK)
	wantDelete(t, "of none", bucket.New(), "k", of(2, gone("k", 1)), 1, api.OK)
	wantDelete(t, "ahead", of(2, v("k", 1)), "j", of(3, gone("j", 2), v("k", 1)), 2, api.OK)
	wantDelete(t, "behind", of(2, v("k", 1)), "l", of(3, v("k", 1), gone("l", 2)), 2, api.OK)
}

// TestDeleteVersion: the newest, the oldest, the only one, markers, and none.
func TestDeleteVersion(t *testing.T) {
	b := of(9, v("a", 8), v("k", 1), gone("k", 4), v("k", 5), v("m", 2), gone("m", 7))
	without := func(n int) api.Bucket { return of(9, slices.Delete(slices.Clone(b.Versions), n, n+1)...) }
	for i, gone := range b.Versions {
		wantDeleteVersion(t, "each", b, gone.Key, gone.Seq, without(i), api.OK)
	}
	for seq := int64(-1); seq <= 10; seq++ {
		for _, key := range []string{"a", "k", "m", "j", "kk", "z"} {
			wantCalls(t, "each number", b, key, "", nil, seq)
		}
	}
	for _, seq := range []int64{least, -1, 0, 2, 6, 9, api.MaxSeq, greatest} {
		wantDeleteVersion(t, "none", b, "k", seq, api.Bucket{}, api.ErrVersion)
		wantGetVersion(t, "none", b, "k", seq, api.Version{}, api.ErrVersion)
	}
	wantDeleteVersion(t, "the only one of all", of(7, v("k", 3)), "k", 3, of(7), api.OK)
	wantDeleteVersion(t, "of none", bucket.New(), "k", 0, api.Bucket{}, api.ErrVersion)
	full := filled(t, 256, 65536)
	less, err := bucket.DeleteVersion(full, full.Versions[99].Key, full.Versions[99].Seq)
	if err != api.OK || len(less.Versions) != 255 || less.Next != 257 {
		t.Errorf("P15.1: DeleteVersion of a full one: %s, %d", short(less), err)
	}
	if _, _, err := bucket.Put(less, "k", "", nil); err != api.OK {
		t.Errorf("P15.1: Put where room was made: %d", err)
	}
	last := of(api.MaxSeq+1, v("k", 1), v("k", api.MaxSeq))
	wantDeleteVersion(t, "Next stays", last, "k", api.MaxSeq, of(api.MaxSeq+1, v("k", 1)), api.OK)
}

// froms are texts about a value's keys: each one, just ahead, just behind, its
// beginnings, and others that no key could be.
func froms(b api.Bucket) []string {
	l := []string{"", "\x00", "\xff", strings.Repeat("\xff", 40), strings.Repeat("k", 33), strings.Repeat("a", 5000), "é", "zz"}
	for _, v := range b.Versions {
		n := len(v.Key) - 1
		l = append(l, v.Key, v.Key[:n], v.Key+"\x00", v.Key+"\xff", v.Key[:n]+string([]byte{v.Key[n] - 1}), v.Key[:n]+string([]byte{v.Key[n] + 1}))
	}
	slices.Sort(l)
	return slices.Compact(l)
}

// TestLists: from all kinds of texts, of all numbers.
func TestLists(t *testing.T) {
	for what, b := range values(t) {
		texts := froms(b)
		for i, from := range texts {
			if len(texts) > 200 && i%37 > 0 {
				continue
			}
			n, m := len(listOf(b, from, 256)), len(versionsOf(b, from, 256))
			for _, most := range []int{math.MinInt, -1, 0, 1, 2, n - 1, n, n + 1, m - 1, m, m + 1, 255, 256, 257, 1 << 32, math.MaxInt} {
				wantLists(t, what, b, from, most)
			}
		}
	}
	b := of(9, v("a", 5), gone("c", 4), v("e", 1), gone("e", 3), gone("g", 2), v("g", 6))
	r := func(i int) api.Row { return row(b.Versions[i]) }
	for from, want := range map[string][]api.Row{"": rows(r(0), r(5)), "a": rows(r(0), r(5)), "a\x00": rows(r(5)), "c": rows(r(5)), "g": rows(r(5)), "g\x00": nil, "\xff": nil} {
		wantList(t, "by hand", b, from, 9, want)
		wantList(t, "by hand, one", b, from, 1, want[:min(1, len(want))])
		wantList(t, "by hand, none", b, from, 0, nil)
	}
	for from, want := range map[string][]api.Row{"": rows(r(0), r(1), r(3), r(2), r(5), r(4)), "b": rows(r(1), r(3), r(2), r(5), r(4)), "d": rows(r(3), r(2), r(5), r(4)), "e\x00": rows(r(5), r(4)), "h": nil} {
		for most := -1; most < 8; most++ {
			wantVersions(t, "by hand", b, from, most, want[:max(0, min(most, len(want)))])
		}
	}
}

// TestBytes: of none, of one, of many, right or not.
func TestBytes(t *testing.T) {
	wantBytes(t, "none", bucket.New(), 0)
	wantBytes(t, "zero", api.Bucket{}, 0)
	wantBytes(t, "a zero version", of(1, api.Version{}), 32)
	wantBytes(t, "a marker", of(2, gone("k", 1)), 33)
	wantBytes(t, "by hand", of(3, api.Version{Key: "ab", Seq: 1, Data: "c", Meta: pairs(api.Pair{Name: "n", Value: "vv"})}, gone("k", 2)), 38+33)
	for _, values := range []map[string]api.Bucket{values(t), wrong(t)} {
		for what, b := range values {
			wantBytes(t, what, b, bytesOf(b))
		}
	}
	great := api.Version{Data: strings.Repeat("d", 1<<20)}
	wantBytes(t, "above 32 bits", of(1, slices.Repeat([]api.Version{great}, 5000)...), 5000*(1<<20+32))
}

// TestValues: every value by hand, with all keys and numbers about its own.
func TestValues(t *testing.T) {
	for what, b := range values(t) {
		if len(b.Versions) > 20 {
			for _, i := range []int{0, 1, len(b.Versions) / 2, len(b.Versions) - 2, len(b.Versions) - 1} {
				v := b.Versions[i]
				for _, key := range []string{v.Key, v.Key + "\x00", v.Key[:1]} {
					wantCalls(t, what, b, key, "data", nil, v.Seq)
				}
			}
			continue
		}
		for _, key := range froms(b) {
			for _, v := range append([]api.Version{{}}, b.Versions...) {
				for seq := v.Seq - 1; seq <= v.Seq+1; seq++ {
					wantCalls(t, what, b, key, "data", pairs(api.Pair{Name: "a", Value: "b"}), seq)
				}
			}
		}
	}
}

// TestSmall: all that can be done in four steps with three keys.
func TestSmall(t *testing.T) {
	small := []string{"a", "a\x00", "b"}
	var grow func(b api.Bucket, left int)
	grow = func(b api.Bucket, left int) {
		for _, from := range []string{"", "a", "a\x00", "b", "c"} {
			for most := range 4 {
				wantLists(t, "small", b, from, most)
			}
		}
		for _, key := range small {
			for seq := int64(0); seq <= b.Next; seq++ {
				wantCalls(t, "small", b, key, "d", nil, seq)
			}
		}
		if left == 0 {
			return
		}
		for _, key := range small {
			more, _, _ := bucket.Put(b, key, "d", nil)
			grow(more, left-1)
			more, _, _ = bucket.Delete(b, key)
			grow(more, left-1)
		}
		for _, v := range b.Versions {
			less, _ := bucket.DeleteVersion(b, v.Key, v.Seq)
			grow(less, left-1)
		}
	}
	grow(bucket.New(), 4)
}

// TestWalk: values grow and shrink by calls; each is right, and tells what the
// chapter's words do.
func TestWalk(t *testing.T) {
	x := &texter{1}
	for round := range 30 {
		b := bucket.New()
		made := map[int64]string{} // what each number was given for
		last := int64(0)
		for step := range 150 {
			what := fmt.Sprintf("round %d, step %d", round, step)
			key, data, meta, seq := x.key(), x.text(x.below(10)), x.meta(), int64(x.below(20))
			if len(b.Versions) > 0 {
				v := b.Versions[x.below(len(b.Versions))]
				key, seq = v.Key, v.Seq
				if x.below(2) == 0 {
					key = x.key()
				}
			}
			wantCalls(t, what, b, key, data, meta, seq)
			wantLists(t, what, b, key[:x.below(len(key)+1)], x.below(12)-1)
			next := b
			var err api.Errno
			var n int64
			switch kind := x.below(6); kind {
			case 0, 1, 2:
				next, n, err = bucket.Put(b, key, data, meta)
			case 3:
				next, n, err = bucket.Delete(b, key)
			default:
				next, err = bucket.DeleteVersion(b, key, seq)
			}
			if err != api.OK {
				continue
			}
			if n > 0 && (n <= last || made[n] != "") {
				t.Fatalf("P15.4: %s: the number %d was given before, or the last was %d", what, n, last)
			}
			if n > 0 {
				made[n], last = what, n
			}
			b = next
			if !bucket.Right(b) || !rightOf(b) {
				t.Fatalf("P15.2: %s: %s is not right", what, short(b))
			}
			if b.Next < last+1 {
				t.Fatalf("P15.4: %s: Next is %d behind %d", what, b.Next, last)
			}
		}
	}
}

// TestStaysRight: what the three changing calls make of right values is right,
// full ones too.
func TestStaysRight(t *testing.T) {
	x := &texter{2}
	all := values(t)
	for i := range 300 {
		all[fmt.Sprint("a walk's ", i)] = x.value(20)
	}
	for what, b := range all {
		wantStaysRight(t, what, b, x)
	}
}

func wantStaysRight(t *testing.T, what string, b api.Bucket, x *texter) {
	t.Helper()
	tells := []string{"k", "", strings.Repeat("k", 33), x.key(), x.key()}
	for i := range min(len(b.Versions), 6) {
		v := b.Versions[len(b.Versions)*i/6]
		tells = append(tells, v.Key)
		less, err := bucket.DeleteVersion(b, v.Key, v.Seq)
		if err != api.OK || !bucket.Right(less) || !rightOf(less) || less.Next != b.Next {
			t.Errorf("P15.2: %s: DeleteVersion(%.8q, %d) = %s, %d", what, v.Key, v.Seq, short(less), err)
		}
	}
	for _, key := range tells {
		for _, data := range []string{"", "d", strings.Repeat("d", 1024), strings.Repeat("d", 1025)} {
			more, seq, err := bucket.Put(b, key, data, x.meta())
			if err == api.OK && (!bucket.Right(more) || !rightOf(more) || seq != b.Next || more.Next != seq+1) {
				t.Errorf("P15.2: %s: Put(%.8q, %d bytes) = %s, %d", what, key, len(data), short(more), seq)
			}
		}
		more, seq, err := bucket.Delete(b, key)
		if err == api.OK && (!bucket.Right(more) || !rightOf(more) || seq != b.Next || more.Next != seq+1) {
			t.Errorf("P15.2: %s: Delete(%.8q) = %s, %d", what, key, short(more), seq)
		}
	}
}

// TestFillUp: Puts till there is no room are answered; then the error; a removed
// version makes room, but no number comes again.
func TestFillUp(t *testing.T) {
	for _, size := range []int{0, 200, 223, 224, 225, 1000, 1024} {
		b := bucket.New()
		var err api.Errno
		for err == api.OK {
			var more api.Bucket
			more, _, err = bucket.Put(b, string([]byte{byte(b.Next * 77)}), strings.Repeat("d", size), nil)
			if err == api.OK {
				b = more
			}
		}
		want, n := api.ErrCount, 256
		if fit := 65536 / (33 + size); fit < 256 {
			want, n = api.ErrBytes, fit
		}
		if err != want || len(b.Versions) != n || b.Next != int64(n)+1 || !bucket.Right(b) {
			t.Errorf("P15.1: Puts of %d bytes: %d behind %d versions, want %d behind %d", size, err, len(b.Versions), want, n)
		}
		for i := range 5 {
			v := b.Versions[i*n/5]
			less, err := bucket.DeleteVersion(b, v.Key, v.Seq)
			if err != api.OK {
				t.Fatalf("P15.1: DeleteVersion of a full one: %d", err)
			}
			more, seq, err := bucket.Put(less, "k", strings.Repeat("d", size), nil)
			if err != api.OK || seq != b.Next || more.Next != seq+1 || !bucket.Right(more) {
				t.Fatalf("P15.4: Put where room was made: %d, %d, want the number %d", seq, err, b.Next)
			}
			b = more
		}
	}
}

// told is what a value tells of a key.
type told struct {
	v   string
	err api.Errno
}

// whole is all that a version has.
func whole(v api.Version) string {
	return fmt.Sprintf("%q %d %v %q %q", v.Key, v.Seq, v.Marker, v.Data, v.Meta)
}

// tellings are what Get and GetVersion tell of some keys and numbers.
func tellings(b api.Bucket, keys []string) map[string]told {
	all := map[string]told{}
	for _, key := range keys {
		v, err := bucket.Get(b, key)
		all[key] = told{whole(v), err}
		for seq := int64(0); seq <= b.Next+1; seq++ {
			v, err := bucket.GetVersion(b, key, seq)
			all[fmt.Sprint(key, " ", seq)] = told{whole(v), err}
		}
	}
	return all
}

// TestNewest: a Put, a Delete and a DeleteVersion change what is told of their
// own key and number, and nothing else.
func TestNewest(t *testing.T) {
	x := &texter{3}
	for range 150 {
		b := x.value(12)
		key, data, meta := x.key(), x.text(x.below(9)), x.meta()
		all := append(slices.Clone(keys), key, "", "none")
		put, seq, _ := bucket.Put(b, key, data, meta)
		made := api.Version{Key: key, Seq: seq, Data: data, Meta: meta}
		if got, err := bucket.Get(put, key); !same(got, made) || err != api.OK {
			t.Fatalf("P15.3: behind Put(%s, %q) Get tells %s, %d", short(b), key, shortVersion(got), err)
		}
		if got, err := bucket.GetVersion(put, key, seq); !same(got, made) || err != api.OK {
			t.Fatalf("P15.3: behind Put(%s, %q) GetVersion tells %s, %d", short(b), key, shortVersion(got), err)
		}
		wantElseAsBefore(t, b, put, key, seq, all)
		deleted, seq, _ := bucket.Delete(b, key)
		if got, err := bucket.Get(deleted, key); !same(got, api.Version{}) || err != api.ErrGone {
			t.Fatalf("P15.3: behind Delete(%s, %q) Get tells %s, %d", short(b), key, shortVersion(got), err)
		}
		if got, err := bucket.GetVersion(deleted, key, seq); !same(got, gone(key, seq)) || err != api.OK {
			t.Fatalf("P15.3: behind Delete(%s, %q) GetVersion tells %s, %d", short(b), key, shortVersion(got), err)
		}
		wantElseAsBefore(t, b, deleted, key, seq, all)
		for _, v := range b.Versions {
			less, err := bucket.DeleteVersion(b, v.Key, v.Seq)
			if _, again := bucket.GetVersion(less, v.Key, v.Seq); err != api.OK || again != api.ErrVersion {
				t.Fatalf("P15.3: DeleteVersion(%s, %q, %d): %d, and then GetVersion %d", short(b), v.Key, v.Seq, err, again)
			}
			wantElseAsBefore(t, b, less, v.Key, v.Seq, all)
		}
	}
}

// wantElseAsBefore: but for one key's newest and one number all is told as before.
func wantElseAsBefore(t *testing.T, was, is api.Bucket, key string, seq int64, keys []string) {
	t.Helper()
	is.Next = was.Next // so that as many numbers are asked for
	before, behind := tellings(was, keys), tellings(is, keys)
	for what, want := range before {
		if got := behind[what]; got != want && what != key && what != fmt.Sprint(key, " ", seq) {
			t.Fatalf("P15.3: of %s and %s, changed in %q %d alone, %q is told as %v, and then as %v", short(was), short(is), key, seq, what, want, got)
		}
	}
}

// TestAsGetSays: List is what Get says of each key, Versions what GetVersion says.
func TestAsGetSays(t *testing.T) {
	x := &texter{4}
	all := values(t)
	for i := range 200 {
		all[fmt.Sprint("a walk's ", i)] = x.value(25)
	}
	for what, b := range all {
		var newest, each []api.Row
		for i, v := range b.Versions {
			if i > 0 && b.Versions[i-1].Key == v.Key {
				continue
			}
			if got, err := bucket.Get(b, v.Key); err == api.OK {
				newest = append(newest, row(got))
			}
			for _, w := range slices.Backward(b.Versions) {
				if got, err := bucket.GetVersion(b, v.Key, w.Seq); err == api.OK {
					each = append(each, row(got))
				}
			}
		}
		if got := bucket.List(b, "", api.MaxCount); !slices.Equal(got, newest) {
			t.Errorf("P15.5: %s: List tells %s, Get %s", what, shortRows(got), shortRows(newest))
		}
		if got := bucket.Versions(b, "", api.MaxCount); !slices.Equal(got, each) {
			t.Errorf("P15.5: %s: Versions tells %s, GetVersion %s", what, shortRows(got), shortRows(each))
		}
	}
}

// TestNotRight: of values that are not right every call ends, and none panics;
// what is refused has nothing beside the error.
func TestNotRight(t *testing.T) {
	x := &texter{5}
	all := wrong(t)
	for i := range 2000 {
		all[fmt.Sprint("a walk's ", i)] = x.any(x.below(12))
	}
	all["long"] = x.any(20000)
	all["long, zero"] = api.Bucket{Versions: make([]api.Version, 100000)}
	for what, b := range all {
		b = x.roomy(b)
		was := deep(b)
		for _, key := range []string{"", "k", "\x00", "\xff", x.key(), strings.Repeat("k", 33)} {
			for _, seq := range []int64{least, -1, 0, 1, 2, api.MaxSeq + 1, greatest} {
				wantEnds(t, what, b, key, seq)
			}
		}
		if !unchanged(b, was) {
			t.Errorf("P15.1: %s: a call has changed %s", what, short(b))
		}
	}
}

// wantEnds: each call ends; with an error there is nothing else.
func wantEnds(t *testing.T, what string, b api.Bucket, key string, seq int64) {
	t.Helper()
	if more, n, err := bucket.Put(b, key, "d", nil); err != api.OK && (n != 0 || !sameValue(more, api.Bucket{})) {
		t.Errorf("P15.1: %s: Put: %s, %d, %d", what, short(more), n, err)
	}
	if more, n, err := bucket.Delete(b, key); err != api.OK && (n != 0 || !sameValue(more, api.Bucket{})) {
		t.Errorf("P15.1: %s: Delete: %s, %d, %d", what, short(more), n, err)
	}
	if less, err := bucket.DeleteVersion(b, key, seq); err != api.OK && !sameValue(less, api.Bucket{}) {
		t.Errorf("P15.1: %s: DeleteVersion: %s, %d", what, short(less), err)
	}
	if v, err := bucket.Get(b, key); err != api.OK && !same(v, api.Version{}) {
		t.Errorf("P15.1: %s: Get: %s, %d", what, shortVersion(v), err)
	}
	if v, err := bucket.GetVersion(b, key, seq); err != api.OK && !same(v, api.Version{}) {
		t.Errorf("P15.1: %s: GetVersion: %s, %d", what, shortVersion(v), err)
	}
	for _, most := range []int{math.MinInt, 0, 1, 300, math.MaxInt} {
		limit := max(0, min(most, api.MaxCount))
		if n, m := len(bucket.List(b, key, most)), len(bucket.Versions(b, key, most)); n > limit || m > limit {
			t.Errorf("P15.1: %s: List and Versions tell %d and %d, at most %d", what, n, m, most)
		}
	}
	bucket.Right(b)
	bucket.Bytes(b)
}

// room is a piece of memory, from one address on and below another.
type room struct{ from, to uintptr }

func roomOf[T any](l []T) room {
	var one T
	from := uintptr(unsafe.Pointer(unsafe.SliceData(l)))
	return room{from, from + uintptr(cap(l))*unsafe.Sizeof(one)}
}

// rooms are where a value's lists lie, spare room too.
func rooms(b api.Bucket) []room {
	all := []room{roomOf(b.Versions)}
	for _, v := range b.Versions[:cap(b.Versions)] {
		all = append(all, roomOf(v.Meta))
	}
	return all
}

// share: have any two of these any memory in common?
func share(all []room) bool {
	all = slices.DeleteFunc(all, func(r room) bool { return r.from == r.to })
	slices.SortFunc(all, func(a, b room) int { return cmp.Compare(a.from, b.from) })
	for i := 1; i < len(all); i++ {
		if all[i].from < all[i-1].to {
			return true
		}
	}
	return false
}

// deep is the same value, spare room and the pairs' too, in other memory.
func deep(b api.Bucket) api.Bucket {
	whole := slices.Clone(b.Versions[:cap(b.Versions)])
	for i, v := range whole {
		whole[i].Meta = slices.Clone(v.Meta[:cap(v.Meta)])[:len(v.Meta)]
	}
	return api.Bucket{Next: b.Next, Versions: whole[:len(b.Versions)]}
}

// unchanged: is a value as it was, in its spare room and the pairs' too?
func unchanged(b, was api.Bucket) bool {
	n := cap(b.Versions)
	return slices.EqualFunc(b.Versions[:n], was.Versions[:n], func(a, b api.Version) bool {
		whole := slices.Equal(a.Meta[:cap(a.Meta)], b.Meta[:cap(a.Meta)])
		return whole && len(a.Meta) == len(b.Meta) && a.Key == b.Key && a.Seq == b.Seq && a.Marker == b.Marker && a.Data == b.Data
	})
}

// roomyPairs are pairs whose spare room has something in it.
func (t *texter) roomyPairs(l []api.Pair) []api.Pair {
	whole := slices.Clone(l)
	for range t.below(3) {
		whole = append(whole, api.Pair{Name: "spare", Value: t.text(2)})
	}
	return slices.Clip(whole)[:len(l)]
}

// roomy is a value whose lists' spare room has something in it.
func (t *texter) roomy(b api.Bucket) api.Bucket {
	whole := slices.Clone(b.Versions)
	for range t.below(4) {
		whole = append(whole, api.Version{Key: "spare", Seq: 7, Data: t.text(3), Meta: t.meta()})
	}
	for i, v := range whole {
		whole[i].Meta = t.roomyPairs(v.Meta)
	}
	return api.Bucket{Next: b.Next, Versions: slices.Clip(whole)[:len(b.Versions)]}
}

// scribble writes over all that a value has, spare room and the pairs' too.
func scribble(b api.Bucket) {
	l := b.Versions[:cap(b.Versions)]
	for i := range l {
		scribblePairs(l[i].Meta)
		l[i] = api.Version{Key: "over", Seq: -77, Marker: true, Data: "over"}
	}
}

func scribblePairs(l []api.Pair) {
	l = l[:cap(l)]
	for i := range l {
		l[i] = api.Pair{Name: "over", Value: "over"}
	}
}

// answers is all that the calls tell of a value: each value for itself, single
// versions as values of one, and rows.
func answers(b api.Bucket, key string, meta []api.Pair) (values []api.Bucket, lists [][]api.Row) {
	single := func(v api.Version, err api.Errno) {
		if err == api.OK {
			values = append(values, of(0, v))
		}
	}
	put, _, _ := bucket.Put(b, key, "data", meta)
	deleted, _, _ := bucket.Delete(b, key)
	values = append(values, bucket.New(), bucket.New(), put, deleted)
	single(bucket.Get(b, key))
	for _, v := range b.Versions {
		less, _ := bucket.DeleteVersion(b, v.Key, v.Seq)
		put, _, _ := bucket.Put(b, v.Key, "data", meta)
		values = append(values, less, put)
		single(bucket.Get(b, v.Key))
		single(bucket.GetVersion(b, v.Key, v.Seq))
	}
	lists = append(lists, bucket.List(b, "", 999), bucket.List(b, key, 2), bucket.Versions(b, "", 999), bucket.Versions(b, key, 2))
	return values, lists
}

// sameRows: are all lists of rows the same?
func sameRows(a, b [][]api.Row) bool { return slices.EqualFunc(a, b, slices.Equal[[]api.Row]) }

// TestHandedIn: no call changes what it is given, and none keeps it or shares
// it with what it answers; no two lists of answers share any either.
func TestHandedIn(t *testing.T) {
	x := &texter{6}
	for i := range 500 {
		b := x.value(8)
		if i%4 == 0 {
			b = x.any(x.below(6))
		}
		b = x.roomy(b)
		key := x.key()
		meta := x.roomyPairs(x.meta())
		was, metaWas := deep(b), slices.Clone(meta[:cap(meta)])
		values, lists := answers(b, key, meta)
		if !unchanged(b, was) || !slices.Equal(meta[:cap(meta)], metaWas) {
			t.Fatalf("P15.1: a call has changed %s, which was %s, or %q", short(b), short(was), meta)
		}
		all := append(rooms(b), roomOf(meta))
		for _, got := range values {
			all = append(all, rooms(got)...)
		}
		for _, got := range lists {
			all = append(all, roomOf(got))
		}
		if share(all) {
			t.Fatalf("P15.1: lists of answers share memory, or with what was handed in: %s", short(b))
		}
		scribble(b)
		scribblePairs(meta)
		again, listsAgain := answers(was, key, metaWas[:len(meta)])
		if !slices.EqualFunc(values, again, sameValue) || !sameRows(lists, listsAgain) {
			t.Fatalf("P15.1: what was answered hangs on what was handed in, or the calls tell another thing the second time, of %s", short(was))
		}
	}
}

// TestGrowAlone: what is answered grows and is written over without touching
// what was answered besides.
func TestGrowAlone(t *testing.T) {
	x := &texter{7}
	for range 200 {
		b, key, meta := x.value(8), x.key(), x.meta()
		values, _ := answers(b, key, meta)
		want, _ := answers(b, key, meta)
		for i, got := range values {
			_ = append(got.Versions, api.Version{Key: "one more"})
			for at := range got.Versions {
				_ = append(got.Versions[at].Meta, api.Pair{Name: "one more"})
			}
			if !slices.EqualFunc(values[i:], want[i:], sameValue) {
				t.Fatalf("P15.1: what grows touches other lists: of %s", short(b))
			}
			scribble(got)
			if !slices.EqualFunc(values[i+1:], want[i+1:], sameValue) {
				t.Fatalf("P15.1: what is written over touches other lists: of %s", short(b))
			}
		}
	}
}

// TestBeside: many beside one another, on the same values, tell what one alone tells.
func TestBeside(t *testing.T) {
	x := &texter{8}
	var all []api.Bucket
	for range 30 {
		all = append(all, x.roomy(x.value(12)))
	}
	var together sync.WaitGroup
	for range 8 {
		together.Go(func() {
			for _, b := range all {
				for _, key := range keys {
					wantCalls(t, "beside others", b, key, "data", nil, 2)
					wantLists(t, "beside others", b, key, 3)
				}
			}
		})
	}
	together.Wait()
}
