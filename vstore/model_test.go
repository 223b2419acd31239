package vstore_test

import (
	"cmp"
	"fmt"
	"maps"
	"math"
	"slices"
	"strings"
	"testing"

	"coffer/api"
	"coffer/bucket"
	"coffer/disk"
	"coffer/names"
	"coffer/vstore"
)

const (
	least    = math.MinInt64
	greatest = math.MaxInt64
)

// texter tells numbers and texts that look like chance and are the same each time.
type texter struct{ x uint64 }

func (t *texter) number() uint64 {
	t.x += 0x9e3779b97f4a7c15
	z := t.x
	z = (z ^ z>>30) * 0xbf58476d1ce4e5b9
	z = (z ^ z>>27) * 0x94d049bb133111eb
	return z ^ z>>31
}

func (t *texter) below(n int) int { return int(t.number() % uint64(n)) }

// text has n bytes of all kinds.
func (t *texter) text(n int) string {
	b := make([]byte, n)
	for i := range b {
		b[i] = byte(t.number())
	}
	return string(b)
}

// one is one of a list.
func one[T any](t *texter, l ...T) T { return l[t.below(len(l))] }

// keys are some of which one begins another, and some whose lengths are about
// those of a tuple's groups.
var keys = []string{"\x00", "\x00\x00", "a", "a\x00", "a\xff", "ab", "k", "\xff", "12345678", "123456789", strings.Repeat("k", 32)}

func (t *texter) key() string {
	if t.below(12) == 0 {
		return t.text(1 + t.below(api.MaxKey))
	}
	return one(t, keys...)
}

// data has a length about one where something changes, or any up to most.
func (t *texter) data(most int) string {
	if t.below(3) == 0 {
		return t.text(min(most, one(t, 0, 1, 100, 136, 137, 490, 500, 1000, 1023, 1024)))
	}
	return t.text(t.below(most + 1))
}

// meta is right metadata.
func (t *texter) meta() []api.Pair {
	var l []api.Pair
	for _, name := range []string{"-", "0", "a", "a-b", "ab", "z"} {
		if t.below(5) == 0 {
			l = append(l, api.Pair{Name: name, Value: t.text(t.below(6))})
		}
	}
	return l
}

// value is a right value of at most n versions, each with at most so many bytes
// of data.
func (t *texter) value(n, most int) api.Bucket {
	b := api.Bucket{Next: 1}
	for range t.below(n + 1) {
		b.Next += int64(t.below(3))
		is, _, err := bucket.Put(b, t.key(), t.data(most), t.meta())
		if t.below(4) == 0 {
			is, _, err = bucket.Delete(b, t.key())
		}
		if err == api.OK {
			b = is
		}
	}
	b.Next += int64(t.below(3))
	return b
}

func pairs(l ...api.Pair) []api.Pair { return l }

// of is a value of these versions.
func of(next int64, l ...api.Version) api.Bucket { return api.Bucket{Next: next, Versions: l} }

// v is a version with the key's and the number's digits as data.
func v(key string, seq int64) api.Version {
	return api.Version{Key: key, Seq: seq, Data: fmt.Sprint(key, seq), Meta: pairs(api.Pair{Name: "n", Value: fmt.Sprint(seq)})}
}

// gone is a marker.
func gone(key string, seq int64) api.Version { return api.Version{Key: key, Seq: seq, Marker: true} }

// filled is a value of n versions that have just so many bytes together, whose
// keys have width bytes and are not in the order of their numbers.
func filled(n, size, width int) api.Bucket {
	b := api.Bucket{Next: int64(n) + 1}
	for i := range n {
		v := api.Version{Key: fmt.Sprintf("%0*d", width, i*7%n), Seq: int64(i) + 1}
		v.Data = strings.Repeat("d", size*(i+1)/n-size*i/n-names.Size(v))
		b.Versions = append(b.Versions, v)
	}
	slices.SortFunc(b.Versions, func(a, b api.Version) int {
		return cmp.Or(strings.Compare(a.Key, b.Key), cmp.Compare(a.Seq, b.Seq))
	})
	return b
}

func same(a, b api.Version) bool {
	return a.Key == b.Key && a.Seq == b.Seq && a.Marker == b.Marker && a.Data == b.Data && slices.Equal(a.Meta, b.Meta)
}

func sameValue(a, b api.Bucket) bool {
	return a.Next == b.Next && slices.EqualFunc(a.Versions, b.Versions, same)
}

// model is a store by the document's words: names, and values of layer 15.
type model map[string]api.Bucket

func (m model) names() []string { return slices.Sorted(maps.Keys(m)) }

// with is a store with a bucket's value.
func (m model) with(name string, b api.Bucket) model {
	m = maps.Clone(m)
	m[name] = b
	return m
}

// without is a store without a bucket.
func (m model) without(name string) model {
	m = maps.Clone(m)
	delete(m, name)
	return m
}

func (m model) is(other model) bool { return maps.EqualFunc(m, other, sameValue) }

// little: has it as little as G asks for?
func (m model) little() bool {
	count, size := 0, int64(0)
	for _, b := range m {
		count += len(b.Versions)
		size += bucket.Bytes(b)
	}
	return count <= 256 && size <= 65536
}

// call is a call of a store.
type call struct {
	kind, name, key, data string // key: of List and Versions from
	meta                  []api.Pair
	seq                   int64
	most                  int
	value                 api.Bucket
}

func (c call) String() string {
	return fmt.Sprintf("%s(%.40q, %.40q, %d bytes, %d pairs, %d, %d, %d versions)", c.kind, c.name, c.key, len(c.data), len(c.meta), c.seq, c.most, len(c.value.Versions))
}

// The kinds of calls: those that change nothing, and those that change.
var (
	looks   = []string{"Names", "Get", "GetVersion", "List", "Versions", "Value"}
	changes = []string{"Make", "Drop", "Put", "Delete", "DeleteVersion", "Set", "Replace"}
)

// told is all that a call may answer.
type told struct {
	err     api.Errno
	seq     int64
	version api.Version
	rows    []api.Row
	names   []string
	value   api.Bucket
}

func (a told) is(b told) bool {
	return a.err == b.err && a.seq == b.seq && same(a.version, b.version) && slices.Equal(a.rows, b.rows) && slices.Equal(a.names, b.names) && sameValue(a.value, b.value)
}

func (a told) String() string {
	return fmt.Sprintf("%d, seq %d, %.60q %d, rows %.200q, names %q, next %d, %d versions", a.err, a.seq, a.version.Data, a.version.Seq, fmt.Sprint(a.rows), a.names, a.value.Next, len(a.value.Versions))
}

// ask makes the call.
func (c call) ask(s *vstore.Store) (a told) {
	switch c.kind {
	case "Names":
		a.names = s.Names()
	case "Make":
		a.err = s.Make(c.name)
	case "Drop":
		a.err = s.Drop(c.name)
	case "Put":
		a.seq, a.err = s.Put(c.name, c.key, c.data, c.meta)
	case "Delete":
		a.seq, a.err = s.Delete(c.name, c.key)
	case "DeleteVersion":
		a.err = s.DeleteVersion(c.name, c.key, c.seq)
	case "Get":
		a.version, a.err = s.Get(c.name, c.key)
	case "GetVersion":
		a.version, a.err = s.GetVersion(c.name, c.key, c.seq)
	case "List":
		a.rows, a.err = s.List(c.name, c.key, c.most)
	case "Versions":
		a.rows, a.err = s.Versions(c.name, c.key, c.most)
	case "Value":
		a.value, a.err = s.Value(c.name)
	case "Set":
		a.err = s.Set(c.name, c.value)
	case "Replace":
		a.err = s.Replace(c.name, c.value)
	}
	return a
}

// wrong is what is wrong with the call's arguments alone.
func (c call) wrong() api.Errno {
	isKeyed := slices.Contains([]string{"Put", "Delete", "DeleteVersion", "Get", "GetVersion"}, c.kind)
	switch {
	case c.kind == "Names":
		return 0
	case len(c.name) < 1 || len(c.name) > 32 || strings.Trim(c.name, "abcdefghijklmnopqrstuvwxyz0123456789-") != "":
		return 60
	case isKeyed && (len(c.key) < 1 || len(c.key) > 32):
		return 61
	case c.kind == "Put" && len(c.data) > 1024:
		return 63
	case c.kind == "Put" && names.Meta(c.meta) != 0:
		return 62
	case (c.kind == "Set" || c.kind == "Replace") && !bucket.Right(c.value):
		return 1
	}
	return 0
}

// by is what the chapter says that the call answers, but for room, and the
// store behind it.
func (c call) by(m model) (told, model) {
	b, there := m[c.name]
	isNew := c.kind == "Make" || c.kind == "Set"
	switch err := c.wrong(); {
	case err != 0:
		return told{err: err}, m
	case c.kind == "Names":
		return told{names: m.names()}, m
	case isNew && there:
		return told{err: 71}, m
	case isNew && len(m) >= 8:
		return told{err: 77}, m
	case c.kind == "Make":
		return told{}, m.with(c.name, bucket.New())
	case c.kind == "Set":
		return told{}, m.with(c.name, c.value)
	case !there:
		return told{err: 70}, m
	case c.kind == "Drop":
		return told{}, m.without(c.name)
	case c.kind == "Replace":
		return told{}, m.with(c.name, c.value)
	}
	return c.byValue(m, b)
}

// byValue is what layer 15 says of a call, and the store behind it.
func (c call) byValue(m model, b api.Bucket) (told, model) {
	var a told
	is := b
	switch c.kind {
	case "Put":
		is, a.seq, a.err = bucket.Put(b, c.key, c.data, c.meta)
	case "Delete":
		is, a.seq, a.err = bucket.Delete(b, c.key)
	case "DeleteVersion":
		is, a.err = bucket.DeleteVersion(b, c.key, c.seq)
	case "Get":
		a.version, a.err = bucket.Get(b, c.key)
	case "GetVersion":
		a.version, a.err = bucket.GetVersion(b, c.key, c.seq)
	case "List":
		a.rows = bucket.List(b, c.key, c.most)
	case "Versions":
		a.rows = bucket.Versions(b, c.key, c.most)
	case "Value":
		a.value = b
	}
	if a.err != 0 {
		return a, m
	}
	return a, m.with(c.name, is)
}

// call is one of some kinds, mostly one that goes.
func (t *texter) call(m model, kinds []string, most int) call {
	c := call{kind: one(t, kinds...), name: one(t, "a", "a-", "aa", "b", "12345678", "123456789", strings.Repeat("n", 32), "c", "d", "e")}
	c.key, c.data, c.meta = t.key(), t.data(most), t.meta()
	c.seq, c.most = int64(t.below(9)), t.below(9)
	if b := m[c.name]; len(b.Versions) > 0 && t.below(4) > 0 {
		v := one(t, b.Versions...)
		c.key, c.seq = v.Key, v.Seq
	}
	if c.kind == "Set" || c.kind == "Replace" {
		c.value = t.value(10, most)
	}
	switch t.below(60) {
	case 0:
		c.name = one(t, "", "A", "a b", strings.Repeat("n", 33), t.text(3))
	case 1:
		c.key = one(t, "", strings.Repeat("k", 33))
	case 2:
		c.data = t.text(1025)
	case 3:
		c.meta = pairs(api.Pair{Name: "b"}, api.Pair{Name: "a"})
	case 4:
		c.value.Next = one[int64](t, 0, -1, least, greatest)
	}
	return c
}

// newDisk is a disk of so many sectors.
func newDisk(t *testing.T, sectors int) *disk.Disk {
	t.Helper()
	d, err := disk.New(sectors)
	if err != api.OK {
		t.Fatalf("disk.New(%d): %d", sectors, err)
	}
	return d
}

// opens is the store on a disk, which is to be there.
func opens(t *testing.T, what string, d *disk.Disk, size int) *vstore.Store {
	t.Helper()
	s, err := vstore.Open(d, size)
	if s == nil || err != api.OK {
		t.Fatalf("%s: Open of %d sectors, %d of them the log's: %d", what, d.Sectors(), size, err)
	}
	return s
}

// laid is a new store with the values of m, and its disk.
func laid(t *testing.T, sectors, size int, m model) (*disk.Disk, *vstore.Store) {
	t.Helper()
	d := newDisk(t, sectors)
	s := opens(t, "a new disk", d, size)
	for _, name := range m.names() {
		if err := s.Set(name, m[name]); err != api.OK {
			t.Fatalf("Set(%q, %d versions): %d", name, len(m[name].Versions), err)
		}
	}
	return d, s
}

// great is a new store, with as much room as G asks for.
func great(t *testing.T, m model) (*disk.Disk, *vstore.Store) {
	t.Helper()
	return laid(t, 8192, 2048, m)
}

// valuesOf is what a store tells of all its buckets.
func valuesOf(t *testing.T, what string, s *vstore.Store) model {
	t.Helper()
	m := model{}
	l := s.Names()
	if !slices.IsSorted(l) {
		t.Fatalf("%s: Names: %q", what, l)
	}
	for _, name := range l {
		b, err := s.Value(name)
		if _, twice := m[name]; err != api.OK || twice {
			t.Fatalf("%s: Value(%q): %d, twice %v", what, name, err, twice)
		}
		m[name] = b
	}
	return m
}

// holds: a store has just these buckets with these values.
func holds(t *testing.T, what string, s *vstore.Store, m model) {
	t.Helper()
	if got := valuesOf(t, what, s); !got.is(m) {
		t.Fatalf("%s: the store holds %s, want %s", what, got, m)
	}
}

func (m model) String() string {
	var l []string
	for _, name := range m.names() {
		l = append(l, fmt.Sprintf("%q: next %d, %d versions, %d bytes", name, m[name].Next, len(m[name].Versions), bucket.Bytes(m[name])))
	}
	return "(" + strings.Join(l, "; ") + ")"
}

// tells: what does not change tells of a store what the chapter says of m.
func tells(t *testing.T, what string, s *vstore.Store, m model) {
	t.Helper()
	holds(t, what, s, m)
	for _, name := range append(m.names(), "not-there") {
		for _, most := range []int{-1, 0, 1, 3, 999} {
			answers(t, what, s, m, call{kind: "List", name: name, most: most})
			answers(t, what, s, m, call{kind: "Versions", name: name, most: most})
		}
		// Of many versions some are asked for.
		l := append(slices.Clone(m[name].Versions), v("not there", 7))
		for i := 0; i < len(l); i += 1 + len(l)/30 {
			v := l[i]
			answers(t, what, s, m, call{kind: "Get", name: name, key: v.Key})
			answers(t, what, s, m, call{kind: "GetVersion", name: name, key: v.Key, seq: v.Seq})
			answers(t, what, s, m, call{kind: "GetVersion", name: name, key: v.Key, seq: v.Seq + 1})
			if i < 20 {
				answers(t, what, s, m, call{kind: "List", name: name, key: v.Key, most: 5})
				answers(t, what, s, m, call{kind: "Versions", name: name, key: v.Key, most: 5})
			}
		}
	}
}

// answers: the store answers a call as the chapter says of m. It is the store
// behind it.
func answers(t *testing.T, what string, s *vstore.Store, m model, c call) model {
	t.Helper()
	want, behind := c.by(m)
	if got := c.ask(s); !got.is(want) {
		t.Fatalf("%s: P16.1: %s of %s: %s, want %s", what, c, m, got, want)
	}
	return behind
}

// isRoom: is it an error for want of room?
func isRoom(err api.Errno) bool { return err == api.ErrSpace || err == api.ErrLog }

// answersForRoom is answers, where a call that would change something may be
// refused for room; then the store is as it was. It tells whether it was.
func answersForRoom(t *testing.T, what string, s *vstore.Store, m model, c call) (model, bool) {
	t.Helper()
	want, behind := c.by(m)
	got := c.ask(s)
	if want.err == api.OK && slices.Contains(changes, c.kind) && got.is(told{err: got.err}) && isRoom(got.err) {
		return m, true
	}
	if !got.is(want) {
		t.Fatalf("%s: P16.1: %s of %s: %s, want %s", what, c, m, got, want)
	}
	return behind, false
}
