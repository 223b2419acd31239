package backup_test

import (
	"cmp"
	"fmt"
	"maps"
	"math"
	"slices"
	"strings"
	"testing"

	"coffer/api"
	"coffer/archive"
	"coffer/backup"
	"coffer/bucket"
	"coffer/disk"
	"coffer/names"
)

const (
	least    = math.MinInt64
	greatest = math.MaxInt64
	maxNext  = 1099511627777
)

// texter tells numbers and texts that look like chance and are the same each
// time; some of the archives that it tells are those that lie on its shelf.
type texter struct {
	x     uint64
	shelf []string
}

func seed(n int) *texter { return &texter{x: uint64(n)} }

func (t *texter) number() uint64 {
	t.x += 0x9e3779b97f4a7c15
	z := t.x
	z = (z ^ z>>30) * 0xbf58476d1ce4e5b9
	z = (z ^ z>>27) * 0x94d049bb133111eb
	return z ^ z>>31
}

func (t *texter) below(n int) int { return int(t.number() % uint64(n)) }

// text has n bytes of all kinds.
func (t *texter) text(n int) string {
	b := make([]byte, n)
	for i := range b {
		b[i] = byte(t.number())
	}
	return string(b)
}

// one is one of a list.
func one[T any](t *texter, l ...T) T { return l[t.below(len(l))] }

// keys are some of which one begins another.
var keys = []string{"\x00", "\n", "=", "a", "a\x00", "a\xff", "ab", "k", "\xff", "12345678", times(32, "k")}

// meta is right metadata.
func (t *texter) meta() []api.Pair {
	var l []api.Pair
	for _, name := range []string{"-", "0", "a", "a-b", "ab", "z"} {
		if t.below(5) == 0 {
			l = append(l, api.Pair{Name: name, Value: t.text(t.below(6))})
		}
	}
	return l
}

// from is what a right value may have from a number on: at most n versions, each
// with at most so many bytes of data.
func (t *texter) from(m int64, n, most int) api.Bucket {
	b := api.Bucket{Next: m}
	for range t.below(n + 1) {
		b.Next += int64(t.below(5) / 3)
		is, _, err := bucket.Put(b, one(t, keys...), t.text(t.below(most+1)), t.meta())
		if t.below(4) == 0 {
			is, _, err = bucket.Delete(b, one(t, keys...))
		}
		if err == api.OK {
			b = is
		}
	}
	b.Next = min(b.Next+int64(t.below(3)), maxNext)
	return b
}

// archive is a text that is mostly an archive of the kind that is asked for: of a
// whole bucket, or of what one has since a number.
func (t *texter) archive(since int64, most int) string {
	s := packed(t.from(max(since, 1), 8, most), since)
	switch t.below(12) {
	case 0:
		s = s[:t.below(len(s))]
	case 1:
		at := t.below(len(s))
		s = turned(s, at, s[at]^byte(1+t.below(255)))
	case 2:
		s = packed(t.from(3, 8, most), one[int64](t, 0, 1, 2, 3))
	case 3, 4, 5:
		if len(t.shelf) > 0 {
			s = one(t, t.shelf...)
		}
	}
	return s
}

func times(n int, letter string) string { return strings.Repeat(letter, n) }

// turned is a text with another byte at a place.
func turned(s string, at int, c byte) string { return s[:at] + string([]byte{c}) + s[at+1:] }

// pairs are made of names and values in turn.
func pairs(s ...string) []api.Pair {
	var l []api.Pair
	for i := 0; i < len(s); i += 2 {
		l = append(l, api.Pair{Name: s[i], Value: s[i+1]})
	}
	return l
}

// of is a value of these versions.
func of(next int64, l ...api.Version) api.Bucket { return api.Bucket{Next: next, Versions: l} }

// v is a version with the key's and the number's digits as data.
func v(key string, seq int64) api.Version {
	return api.Version{Key: key, Seq: seq, Data: fmt.Sprint(key, seq), Meta: pairs("n", fmt.Sprint(seq))}
}

// gone is a marker.
func gone(key string, seq int64) api.Version { return api.Version{Key: key, Seq: seq, Marker: true} }

// list is n versions of one key, the numbers from one on, each of this size.
func list(n int, key string, from int64, size int) []api.Version {
	var l []api.Version
	for i := range n {
		l = append(l, api.Version{Key: key, Seq: from + int64(i), Data: times(size-32-len(key), "d")})
	}
	return l
}

// filled is a value of n versions that have just so many bytes together, with
// the numbers from one on; their keys have width bytes and another order.
func filled(n, size, width int, from int64) api.Bucket {
	b := api.Bucket{Next: from + int64(n)}
	for i := range n {
		v := api.Version{Key: fmt.Sprintf("%0*d", width, i*7%n), Seq: from + int64(i)}
		v.Data = times(size*(i+1)/n-size*i/n-names.Size(v), "d")
		b.Versions = append(b.Versions, v)
	}
	b.Versions = inOrder(b.Versions)
	return b
}

// inOrder is the same versions in canonical order.
func inOrder(l []api.Version) []api.Version {
	return slices.SortedFunc(slices.Values(l), func(a, b api.Version) int {
		return cmp.Or(strings.Compare(a.Key, b.Key), cmp.Compare(a.Seq, b.Seq))
	})
}

func same(a, b api.Version) bool {
	return a.Key == b.Key && a.Seq == b.Seq && a.Marker == b.Marker && a.Data == b.Data && slices.Equal(a.Meta, b.Meta)
}

func sameValue(a, b api.Bucket) bool {
	return a.Next == b.Next && slices.EqualFunc(a.Versions, b.Versions, same)
}

// packed is the archive of a value and a number that have one.
func packed(b api.Bucket, since int64) string {
	s, err := archive.Pack(b, since)
	if err != api.OK {
		panic(fmt.Sprintf("no archive of %+v since %d", b, since))
	}
	return s
}

// part is those of a value's versions that are asked for.
func part(b api.Bucket, isAsked func(seq int64) bool) api.Bucket {
	l := slices.DeleteFunc(slices.Clone(b.Versions), func(v api.Version) bool { return !isAsked(v.Seq) })
	return api.Bucket{Next: b.Next, Versions: l}
}

// laidOn is what chapter 19 says of a value on which a delta is laid.
func laidOn(b, d api.Bucket, since int64) (api.Bucket, api.Errno) {
	is := of(d.Next, inOrder(slices.Concat(b.Versions, d.Versions))...)
	switch {
	case since != b.Next:
		return api.Bucket{}, 91
	case len(is.Versions) > 256:
		return api.Bucket{}, 75
	case bucket.Bytes(is) > 65536:
		return api.Bucket{}, 76
	}
	return is, 0
}

// model is a store by the document's words: names, and values of layer 15.
type model map[string]api.Bucket

func (m model) names() []string { return slices.Sorted(maps.Keys(m)) }

// with is a store with a bucket's value.
func (m model) with(name string, b api.Bucket) model {
	m = maps.Clone(m)
	m[name] = b
	return m
}

// without is a store without a bucket.
func (m model) without(name string) model {
	m = maps.Clone(m)
	delete(m, name)
	return m
}

func (m model) is(other model) bool { return maps.EqualFunc(m, other, sameValue) }

// little: has it as little as G asks for?
func (m model) little() bool {
	count, size := 0, int64(0)
	for _, b := range m {
		count += len(b.Versions)
		size += bucket.Bytes(b)
	}
	return count <= 256 && size <= 65536
}

func (m model) String() string {
	var l []string
	for _, name := range m.names() {
		l = append(l, fmt.Sprintf("%q: next %d, %d versions, %d bytes", name, m[name].Next, len(m[name].Versions), bucket.Bytes(m[name])))
	}
	return "(" + strings.Join(l, "; ") + ")"
}

// call is a call of a store.
type call struct {
	kind, name, key, data string // key: of List and Versions from
	meta                  []api.Pair
	seq                   int64 // of ExportSince m
	most                  int
	text                  string
}

func (c call) String() string {
	return fmt.Sprintf("%s(%.40q, %.40q, %d bytes, %d pairs, %d, %d, an archive of %d bytes)", c.kind, c.name, c.key, len(c.data), len(c.meta), c.seq, c.most, len(c.text))
}

// The kinds of calls: those that change nothing, and those that change.
var (
	looks   = []string{"Names", "Get", "GetVersion", "List", "Versions", "Value", "Export", "ExportSince"}
	changes = []string{"Make", "Drop", "Put", "Delete", "DeleteVersion", "Import", "Apply"}
	kinds   = slices.Concat(looks, changes)
)

// told is all that a call may answer.
type told struct {
	err     api.Errno
	seq     int64
	version api.Version
	rows    []api.Row
	names   []string
	value   api.Bucket
	text    string
}

func (a told) is(b told) bool {
	return a.err == b.err && a.seq == b.seq && same(a.version, b.version) && slices.Equal(a.rows, b.rows) && slices.Equal(a.names, b.names) && sameValue(a.value, b.value) && a.text == b.text
}

func (a told) String() string {
	return fmt.Sprintf("%d, seq %d, %.60q %d, rows %.200q, names %q, next %d, %d versions, %.400q", a.err, a.seq, a.version.Data, a.version.Seq, fmt.Sprint(a.rows), a.names, a.value.Next, len(a.value.Versions), a.text)
}

// ask makes the call.
func (c call) ask(s *backup.Store) (a told) {
	switch c.kind {
	case "Names":
		a.names = s.Names()
	case "Make":
		a.err = s.Make(c.name)
	case "Drop":
		a.err = s.Drop(c.name)
	case "Put":
		a.seq, a.err = s.Put(c.name, c.key, c.data, c.meta)
	case "Delete":
		a.seq, a.err = s.Delete(c.name, c.key)
	case "DeleteVersion":
		a.err = s.DeleteVersion(c.name, c.key, c.seq)
	case "Get":
		a.version, a.err = s.Get(c.name, c.key)
	case "GetVersion":
		a.version, a.err = s.GetVersion(c.name, c.key, c.seq)
	case "List":
		a.rows, a.err = s.List(c.name, c.key, c.most)
	case "Versions":
		a.rows, a.err = s.Versions(c.name, c.key, c.most)
	case "Value":
		a.value, a.err = s.Value(c.name)
	case "Export":
		a.text, a.err = s.Export(c.name)
	case "ExportSince":
		a.text, a.err = s.ExportSince(c.name, c.seq)
	case "Import":
		a.err = s.Import(c.name, c.text)
	case "Apply":
		a.err = s.Apply(c.name, c.text)
	}
	return a
}

// wrong is what is wrong with the call's arguments alone.
func (c call) wrong() api.Errno {
	isKeyed := slices.Contains([]string{"Put", "Delete", "DeleteVersion", "Get", "GetVersion"}, c.kind)
	switch {
	case c.kind == "Names":
		return 0
	case len(c.name) < 1 || len(c.name) > 32 || strings.Trim(c.name, "abcdefghijklmnopqrstuvwxyz0123456789-") != "":
		return 60
	case isKeyed && (len(c.key) < 1 || len(c.key) > 32):
		return 61
	case c.kind == "Put" && len(c.data) > 1024:
		return 63
	case c.kind == "Put" && names.Meta(c.meta) != 0:
		return 62
	case c.kind == "Import" || c.kind == "Apply":
		if _, since, err := archive.Unpack(c.text); err != 0 || (since == 0) != (c.kind == "Import") {
			return 90
		}
	}
	return 0
}

// by is what the chapter says that the call answers, but for room, and the
// store behind it.
func (c call) by(m model) (told, model) {
	b, there := m[c.name]
	isNew := c.kind == "Make" || c.kind == "Import"
	switch err := c.wrong(); {
	case err != 0:
		return told{err: err}, m
	case c.kind == "Names":
		return told{names: m.names()}, m
	case isNew && there:
		return told{err: 71}, m
	case isNew && len(m) >= 8:
		return told{err: 77}, m
	case c.kind == "Make":
		return told{}, m.with(c.name, of(1))
	case c.kind == "Import":
		is, _, _ := archive.Unpack(c.text)
		return told{}, m.with(c.name, is)
	case !there:
		return told{err: 70}, m
	case c.kind == "Drop":
		return told{}, m.without(c.name)
	}
	a, is := c.byValue(b)
	if a.err != 0 {
		is = b
	}
	return a, m.with(c.name, is)
}

// byValue is what is said of a call on a bucket's value, and the value behind it.
func (c call) byValue(b api.Bucket) (told, api.Bucket) {
	var a told
	is := b
	switch c.kind {
	case "Put":
		is, a.seq, a.err = bucket.Put(b, c.key, c.data, c.meta)
	case "Delete":
		is, a.seq, a.err = bucket.Delete(b, c.key)
	case "DeleteVersion":
		is, a.err = bucket.DeleteVersion(b, c.key, c.seq)
	case "Get":
		a.version, a.err = bucket.Get(b, c.key)
	case "GetVersion":
		a.version, a.err = bucket.GetVersion(b, c.key, c.seq)
	case "List":
		a.rows = bucket.List(b, c.key, c.most)
	case "Versions":
		a.rows = bucket.Versions(b, c.key, c.most)
	case "Value":
		a.value = b
	case "Export":
		a.text = packed(b, 0)
	case "ExportSince":
		if c.seq < 1 || c.seq > b.Next {
			return told{err: 1}, b
		}
		a.text = packed(part(b, func(seq int64) bool { return seq >= c.seq }), c.seq)
	case "Apply":
		d, since, _ := archive.Unpack(c.text)
		is, a.err = laidOn(b, d, since)
	}
	return a, is
}

// call is one of some kinds, mostly one that goes.
func (t *texter) call(m model, kinds []string, most int) call {
	c := call{kind: one(t, kinds...), name: one(t, "a", "a-", "aa", "b", "12345678", times(32, "n"), "c", "d", "e")}
	if l := m.names(); len(l) > 0 && c.kind != "Make" && c.kind != "Import" && t.below(3) > 0 {
		c.name = one(t, l...)
	}
	b := m[c.name]
	c.key, c.data, c.meta = one(t, keys...), t.text(t.below(most+1)), t.meta()
	c.seq, c.most = int64(t.below(9)), t.below(9)
	if len(b.Versions) > 0 && t.below(4) > 0 {
		v := one(t, b.Versions...)
		c.key, c.seq = v.Key, v.Seq
	}
	switch c.kind {
	case "Import":
		c.text = t.archive(0, most)
	case "Apply":
		c.text = t.archive(max(b.Next, 1), most)
	}
	switch t.below(60) {
	case 0:
		c.name = one(t, "", "A", "a b", times(33, "n"), t.text(3))
	case 1:
		c.key = one(t, "", times(33, "k"))
	case 2:
		c.data = t.text(1025)
	case 3:
		c.meta = pairs("b", "", "a", "")
	case 4:
		c.seq = one(t, least, -1, 0, b.Next, b.Next+1, greatest)
	}
	return c
}

// newDisk is a disk of so many sectors.
func newDisk(t *testing.T, sectors int) *disk.Disk {
	t.Helper()
	d, err := disk.New(sectors)
	if err != api.OK {
		t.Fatalf("disk.New(%d): %d", sectors, err)
	}
	return d
}

// opens is the store on a disk, which is to be there.
func opens(t *testing.T, what string, d *disk.Disk, size int) *backup.Store {
	t.Helper()
	s, err := backup.Open(d, size)
	if s == nil || err != api.OK {
		t.Fatalf("%s: Open of %d sectors, %d of them the log's: %v, %d", what, d.Sectors(), size, s, err)
	}
	return s
}

// laid is a new store with the values of m, and its disk.
func laid(t *testing.T, sectors, size int, m model) (*disk.Disk, *backup.Store) {
	t.Helper()
	d := newDisk(t, sectors)
	s := opens(t, "a new disk", d, size)
	for _, name := range m.names() {
		wants(t, fmt.Sprintf("Import(%q, %d versions)", name, len(m[name].Versions)), s.Import(name, packed(m[name], 0)), api.OK)
	}
	holds(t, "P20.2: laid", s, m)
	return d, s
}

// great is a new store, with as much room as G asks for.
func great(t *testing.T, m model) (*disk.Disk, *backup.Store) {
	t.Helper()
	return laid(t, 8192, 2048, m)
}

func wants(t *testing.T, what string, got, want api.Errno) {
	t.Helper()
	if got != want {
		t.Fatalf("%s: %d, want %d", what, got, want)
	}
}

// valuesOf is what a store tells of all its buckets.
func valuesOf(t *testing.T, what string, s *backup.Store) model {
	t.Helper()
	m := model{}
	l := s.Names()
	if !slices.IsSorted(l) {
		t.Fatalf("%s: Names: %q", what, l)
	}
	for _, name := range l {
		b, err := s.Value(name)
		if _, twice := m[name]; err != api.OK || twice {
			t.Fatalf("%s: Value(%q): %d, twice %v", what, name, err, twice)
		}
		m[name] = b
	}
	return m
}

// holds: a store has just these buckets with these values.
func holds(t *testing.T, what string, s *backup.Store, m model) {
	t.Helper()
	if got := valuesOf(t, what, s); !got.is(m) {
		t.Fatalf("%s: the store holds %s, want %s", what, got, m)
	}
}

// tells: what does not change tells of a store what the chapter says of m.
func tells(t *testing.T, what string, s *backup.Store, m model) {
	t.Helper()
	holds(t, what, s, m)
	for _, name := range append(m.names(), "not-there") {
		answers(t, what, s, m, call{kind: "Export", name: name})
		// Of many versions some are asked for.
		l := append(slices.Clone(m[name].Versions), v("not there", m[name].Next))
		for i := 0; i < len(l); i += 1 + len(l)/9 {
			v := l[i]
			answers(t, what, s, m, call{kind: "Get", name: name, key: v.Key})
			for _, seq := range []int64{v.Seq, v.Seq + 1} {
				answers(t, what, s, m, call{kind: "GetVersion", name: name, key: v.Key, seq: seq})
				answers(t, what, s, m, call{kind: "ExportSince", name: name, seq: seq})
			}
			answers(t, what, s, m, call{kind: "List", name: name, key: v.Key, most: 5})
			answers(t, what, s, m, call{kind: "Versions", name: name, key: v.Key, most: 5})
		}
	}
}

// answers: the store answers a call as the chapter says of m. It is the store
// behind it.
func answers(t *testing.T, what string, s *backup.Store, m model, c call) model {
	t.Helper()
	want, behind := c.by(m)
	if got := c.ask(s); !got.is(want) {
		t.Fatalf("%s: P20.1: %s of %s: %s, want %s", what, c, m, got, want)
	}
	return behind
}

// isRoom: is it an error for want of room?
func isRoom(err api.Errno) bool { return err == api.ErrSpace || err == api.ErrLog }

// answersForRoom is answers, where a call that would change something may be
// refused for room; then the store is as it was. It tells whether it was.
func answersForRoom(t *testing.T, what string, s *backup.Store, m model, c call) (model, bool) {
	t.Helper()
	want, behind := c.by(m)
	got := c.ask(s)
	if want.err == api.OK && slices.Contains(changes, c.kind) && got.is(told{err: got.err}) && isRoom(got.err) {
		return m, true
	}
	if !got.is(want) {
		t.Fatalf("%s: P20.1: %s of %s: %s, want %s", what, c, m, got, want)
	}
	return behind, false
}
