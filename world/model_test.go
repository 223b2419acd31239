package world_test

import (
	"cmp"
	"fmt"
	"maps"
	"math"
	"slices"
	"strings"
	"testing"

	"coffer/api"
	"coffer/archive"
	"coffer/bucket"
	"coffer/names"
	"coffer/world"
)

const (
	least    = math.MinInt64
	greatest = math.MaxInt64
	maxNext  = 1099511627777
)

// texter tells numbers and texts that look like chance and are the same each
// time.
type texter struct{ x uint64 }

func seed(n int) *texter { return &texter{x: uint64(n)} }

func (t *texter) number() uint64 {
	t.x += 0x9e3779b97f4a7c15
	z := t.x
	z = (z ^ z>>30) * 0xbf58476d1ce4e5b9
	z = (z ^ z>>27) * 0x94d049bb133111eb
	return z ^ z>>31
}

func (t *texter) below(n int) int { return int(t.number() % uint64(n)) }

// text has n bytes of all kinds.
func (t *texter) text(n int) string {
	b := make([]byte, n)
	for i := range b {
		b[i] = byte(t.number())
	}
	return string(b)
}

// one is one of a list.
func one[T any](t *texter, l ...T) T { return l[t.below(len(l))] }

// keys are some of which one begins another.
var keys = []string{"\x00", "\n", "=", "a", "a\x00", "a\xff", "ab", "k", "\xff", "12345678", times(32, "k")}

// meta is right metadata.
func (t *texter) meta() []api.Pair {
	var l []api.Pair
	for _, name := range []string{"-", "0", "a", "a-b", "ab", "z"} {
		if t.below(5) == 0 {
			l = append(l, api.Pair{Name: name, Value: t.text(t.below(6))})
		}
	}
	return l
}

// from is what a right value may have from a number on: at most n versions, each
// with at most so many bytes of data.
func (t *texter) from(m int64, n, most int) api.Bucket {
	b := api.Bucket{Next: m}
	for range t.below(n + 1) {
		b.Next += int64(t.below(5) / 3)
		is, _, err := bucket.Put(b, one(t, keys...), t.text(t.below(most+1)), t.meta())
		if t.below(4) == 0 {
			is, _, err = bucket.Delete(b, one(t, keys...))
		}
		if err == api.OK {
			b = is
		}
	}
	b.Next = min(b.Next+int64(t.below(3)), maxNext)
	return b
}

// archive is a text that is mostly an archive of the kind that is asked for: of a
// whole bucket, or of what one has since a number.
func (t *texter) archive(shelf []string, since int64, most int) string {
	s := packed(t.from(max(since, 1), 8, most), since)
	switch t.below(12) {
	case 0:
		s = s[:t.below(len(s))]
	case 1:
		at := t.below(len(s))
		s = turned(s, at, s[at]^byte(1+t.below(255)))
	case 2:
		s = packed(t.from(3, 8, most), one[int64](t, 0, 1, 2, 3))
	case 3, 4, 5:
		if len(shelf) > 0 {
			s = one(t, shelf...)
		}
	}
	return s
}

func times(n int, letter string) string { return strings.Repeat(letter, n) }

// turned is a text with another byte at a place.
func turned(s string, at int, c byte) string { return s[:at] + string([]byte{c}) + s[at+1:] }

// pairs are made of names and values in turn.
func pairs(s ...string) []api.Pair {
	var l []api.Pair
	for i := 0; i < len(s); i += 2 {
		l = append(l, api.Pair{Name: s[i], Value: s[i+1]})
	}
	return l
}

// of is a value of these versions.
func of(next int64, l ...api.Version) api.Bucket { return api.Bucket{Next: next, Versions: l} }

// v is a version with the key's and the number's digits as data.
func v(key string, seq int64) api.Version {
	return api.Version{Key: key, Seq: seq, Data: fmt.Sprint(key, seq), Meta: pairs("n", fmt.Sprint(seq))}
}

// gone is a marker.
func gone(key string, seq int64) api.Version { return api.Version{Key: key, Seq: seq, Marker: true} }

// filled is a value of n versions that have just so many bytes together, with
// the numbers from one on; their keys have width bytes and another order.
func filled(n, size, width int, from int64) api.Bucket {
	b := api.Bucket{Next: from + int64(n)}
	for i := range n {
		v := api.Version{Key: fmt.Sprintf("%0*d", width, i*7%n), Seq: from + int64(i)}
		v.Data = times(size*(i+1)/n-size*i/n-names.Size(v), "d")
		b.Versions = append(b.Versions, v)
	}
	b.Versions = inOrder(b.Versions)
	return b
}

// inOrder is the same versions in canonical order.
func inOrder(l []api.Version) []api.Version {
	return slices.SortedFunc(slices.Values(l), func(a, b api.Version) int {
		return cmp.Or(strings.Compare(a.Key, b.Key), cmp.Compare(a.Seq, b.Seq))
	})
}

func same(a, b api.Version) bool {
	return a.Key == b.Key && a.Seq == b.Seq && a.Marker == b.Marker && a.Data == b.Data && slices.Equal(a.Meta, b.Meta)
}

func sameValue(a, b api.Bucket) bool {
	return a.Next == b.Next && slices.EqualFunc(a.Versions, b.Versions, same)
}

// packed is the archive of a value and a number that have one.
func packed(b api.Bucket, since int64) string {
	s, err := archive.Pack(b, since)
	if err != api.OK {
		panic(fmt.Sprintf("no archive of %+v since %d", b, since))
	}
	return s
}

// since is the archive of those of a value's versions that have a number or one
// above it.
func since(b api.Bucket, m int64) string {
	l := slices.DeleteFunc(slices.Clone(b.Versions), func(v api.Version) bool { return v.Seq < m })
	return packed(of(b.Next, l...), m)
}

// laidOn is what chapter 19 says of a value on which a delta is laid.
func laidOn(b, d api.Bucket, since int64) (api.Bucket, api.Errno) {
	is := of(d.Next, inOrder(slices.Concat(b.Versions, d.Versions))...)
	switch {
	case since != b.Next:
		return api.Bucket{}, 91
	case len(is.Versions) > 256:
		return api.Bucket{}, 75
	case bucket.Bytes(is) > 65536:
		return api.Bucket{}, 76
	}
	return is, 0
}

// The kinds of steps that ask for a store: those that change nothing in it, and
// those that do.
var (
	looks   = []int{world.Get, world.GetVersion, world.List, world.Versions, world.Names, world.Export, world.Since}
	changes = []int{world.Make, world.Drop, world.Put, world.Delete, world.Remove, world.Import, world.Apply, world.ImportShelf, world.ApplyShelf}
	asking  = slices.Concat(looks, changes)
)

func isOf(kind int, kinds ...int) bool { return slices.Contains(kinds, kind) }

// model is a world that is up by the document's words: named values of layer 15,
// and a shelf.
type model struct {
	values map[string]api.Bucket
	shelf  []string
}

func (m model) names() []string { return slices.Sorted(maps.Keys(m.values)) }

// with is a model with a bucket's value.
func (m model) with(name string, b api.Bucket) model {
	values := maps.Clone(m.values)
	if values == nil {
		values = map[string]api.Bucket{}
	}
	values[name] = b
	return model{values, m.shelf}
}

// without is a model without a bucket.
func (m model) without(name string) model {
	values := maps.Clone(m.values)
	delete(values, name)
	return model{values, m.shelf}
}

// and is a model with one more archive on its shelf.
func (m model) and(text string) model {
	return model{m.values, append(slices.Clone(m.shelf), text)}
}

func (m model) is(other model) bool {
	return maps.EqualFunc(m.values, other.values, sameValue) && slices.Equal(m.shelf, other.shelf)
}

// little: has it as little as G asks for?
func (m model) little() bool {
	count, size := 0, int64(0)
	for _, b := range m.values {
		count += len(b.Versions)
		size += bucket.Bytes(b)
	}
	return count <= 256 && size <= 65536
}

func (m model) String() string {
	var l []string
	for _, name := range m.names() {
		b := m.values[name]
		l = append(l, fmt.Sprintf("%q: next %d, %d versions, %d bytes", name, b.Next, len(b.Versions), bucket.Bytes(b)))
	}
	return fmt.Sprintf("(%s; %d on the shelf)", strings.Join(l, "; "), len(m.shelf))
}

// wrong is what is wrong with a step's fields alone, the shelf told.
func (m model) wrong(s world.Step) api.Errno {
	isShelf := isOf(s.Kind, world.ImportShelf, world.ApplyShelf)
	isImport := isOf(s.Kind, world.Import, world.ImportShelf)
	switch {
	case s.Kind == world.Names:
		return 0
	case isShelf && (s.N < 0 || s.N >= len(m.shelf)):
		return 1
	case len(s.Bucket) < 1 || len(s.Bucket) > 32 || strings.Trim(s.Bucket, "abcdefghijklmnopqrstuvwxyz0123456789-") != "":
		return 60
	case isOf(s.Kind, world.Put, world.Delete, world.Remove, world.Get, world.GetVersion) && (len(s.Key) < 1 || len(s.Key) > 32):
		return 61
	case s.Kind == world.Put && len(s.Data) > 1024:
		return 63
	case s.Kind == world.Put && names.Meta(s.Meta) != 0:
		return 62
	case isShelf || isImport || s.Kind == world.Apply:
		if _, since, err := archive.Unpack(m.textOf(s)); err != 0 || (since == 0) != isImport {
			return 90
		}
	}
	return 0
}

// textOf is the archive of a step.
func (m model) textOf(s world.Step) string {
	if isOf(s.Kind, world.ImportShelf, world.ApplyShelf) {
		return m.shelf[s.N]
	}
	return s.Data
}

// by is what the chapter says that a step of 1 to 16 tells where the power stays,
// but for room, and the world behind it.
func (m model) by(s world.Step) (world.Told, model) {
	b, there := m.values[s.Bucket]
	isImport := isOf(s.Kind, world.Import, world.ImportShelf)
	isNew := s.Kind == world.Make || isImport
	switch err := m.wrong(s); {
	case err != 0:
		return world.Told{Err: err}, m
	case s.Kind == world.Names:
		return world.Told{Names: m.names()}, m
	case isNew && there:
		return world.Told{Err: 71}, m
	case isNew && len(m.values) >= 8:
		return world.Told{Err: 77}, m
	case isImport:
		is, _, _ := archive.Unpack(m.textOf(s))
		return world.Told{}, m.with(s.Bucket, is)
	case isNew:
		return world.Told{}, m.with(s.Bucket, of(1))
	case !there:
		return world.Told{Err: 70}, m
	case s.Kind == world.Drop:
		return world.Told{}, m.without(s.Bucket)
	}
	told, is := m.byValue(s, b)
	switch {
	case told.Err != 0:
		return told, m
	case told.Bytes != "":
		return told, m.and(told.Bytes)
	}
	return told, m.with(s.Bucket, is)
}

// byValue is what is said of a step on a bucket's value, and the value behind it.
func (m model) byValue(s world.Step, b api.Bucket) (told world.Told, is api.Bucket) {
	is = b
	switch s.Kind {
	case world.Put:
		is, told.Seq, told.Err = bucket.Put(b, s.Key, s.Data, s.Meta)
	case world.Delete:
		is, told.Seq, told.Err = bucket.Delete(b, s.Key)
	case world.Remove:
		is, told.Err = bucket.DeleteVersion(b, s.Key, s.Seq)
	case world.Get:
		told.Version, told.Err = bucket.Get(b, s.Key)
	case world.GetVersion:
		told.Version, told.Err = bucket.GetVersion(b, s.Key, s.Seq)
	case world.List:
		told.Rows = bucket.List(b, s.Key, s.N)
	case world.Versions:
		told.Rows = bucket.Versions(b, s.Key, s.N)
	case world.Export:
		told.Bytes = packed(b, 0)
	case world.Since:
		if s.Seq < 1 || s.Seq > b.Next {
			return world.Told{Err: 1}, b
		}
		told.Bytes = since(b, s.Seq)
	default:
		d, since, _ := archive.Unpack(m.textOf(s))
		is, told.Err = laidOn(b, d, since)
	}
	return told, is
}

// step is one of some kinds, mostly one that goes.
func (t *texter) step(m model, kinds []int, most int) world.Step {
	s := world.Step{Kind: one(t, kinds...), Bucket: one(t, "a", "a-", "aa", "b", "12345678", times(32, "n"), "c", "d", "e")}
	if l := m.names(); len(l) > 0 && !isOf(s.Kind, world.Make, world.Import, world.ImportShelf) && t.below(3) > 0 {
		s.Bucket = one(t, l...)
	}
	b := m.values[s.Bucket]
	s.Key, s.Data, s.Meta = one(t, keys...), t.text(t.below(most+1)), t.meta()
	s.Seq, s.N = int64(t.below(9)), t.below(9)
	if len(b.Versions) > 0 && t.below(4) > 0 {
		v := one(t, b.Versions...)
		s.Key, s.Seq = v.Key, v.Seq
	}
	switch s.Kind {
	case world.Import:
		s.Data = t.archive(m.shelf, 0, most)
	case world.Apply:
		s.Data = t.archive(m.shelf, max(b.Next, 1), most)
	case world.ImportShelf, world.ApplyShelf:
		s.N = t.shelved(m, s)
	}
	switch t.below(60) {
	case 0:
		s.Bucket = one(t, "", "A", "a b", times(33, "n"), t.text(3))
	case 1:
		s.Key = one(t, "", times(33, "k"))
	case 2:
		s.Data = t.text(1025)
	case 3:
		s.Meta = pairs("b", "", "a", "")
	case 4:
		s.Seq = one(t, least, -1, 0, b.Next, b.Next+1, greatest)
	case 5:
		s.N = one(t, math.MinInt, -1, len(m.shelf)-1, len(m.shelf), math.MaxInt)
	}
	return s
}

// shelved is an archive's number, often one with which the step goes.
func (t *texter) shelved(m model, s world.Step) int {
	n := t.below(len(m.shelf) + 1)
	for range 9 {
		s.N = n
		if told, _ := m.by(s); told.Err == api.OK {
			break
		}
		n = t.below(len(m.shelf) + 1)
	}
	return n
}

// toldSame: do two steps tell the same?
func toldSame(a, b world.Told) bool {
	return a.Err == b.Err && a.Seq == b.Seq && same(a.Version, b.Version) && slices.Equal(a.Rows, b.Rows) && slices.Equal(a.Names, b.Names) && a.Bytes == b.Bytes
}

// isAlone: is nothing told but an error?
func isAlone(a world.Told, err api.Errno) bool { return toldSame(a, world.Told{Err: err}) }

func said(s world.Step) string {
	return fmt.Sprintf("step %d (%.40q, %.40q, %d bytes, %d pairs, seq %d, n %d, kept %v)", s.Kind, s.Bucket, s.Key, len(s.Data), len(s.Meta), s.Seq, s.N, s.Kept)
}

func toldAs(a world.Told) string {
	return fmt.Sprintf("(%d, seq %d, %.60q %d, rows %.200q, names %q, %.400q)", a.Err, a.Seq, a.Version.Data, a.Version.Seq, fmt.Sprint(a.Rows), a.Names, a.Bytes)
}

// begun is a new world.
func begun(t *testing.T, sectors, size int) *world.World {
	t.Helper()
	w, err := world.New(sectors, size)
	if err != api.OK || w == nil || !w.Up() {
		t.Fatalf("P21.1: New(%d, %d): %d", sectors, size, err)
	}
	return w
}

// begunWith is a new world with these values, and its model.
func begunWith(t *testing.T, sectors, size int, values map[string]api.Bucket) (*world.World, model) {
	t.Helper()
	w, m := begun(t, sectors, size), model{}
	for _, name := range slices.Sorted(maps.Keys(values)) {
		m = answers(t, "at first", w, m, world.Step{Kind: world.Import, Bucket: name, Data: packed(values[name], 0)})
	}
	holds(t, "at first", w, m)
	return w, m
}

// great is a new world, with as much room as G asks for.
func great(t *testing.T, values map[string]api.Bucket) (*world.World, model) {
	t.Helper()
	return begunWith(t, 8192, 2048, values)
}

func wants(t *testing.T, what string, got, want api.Errno) {
	t.Helper()
	if got != want {
		t.Fatalf("%s: %d, want %d", what, got, want)
	}
}

// alone: a step tells an error, or OK, and nothing else.
func alone(t *testing.T, what string, w *world.World, s world.Step, want api.Errno) {
	t.Helper()
	if got := w.Do(s); !isAlone(got, want) {
		t.Fatalf("%s: %s: %s, want %d alone", what, said(s), toldAs(got), want)
	}
}

// found is what a world that is up holds, by its own looks.
func found(t *testing.T, what string, w *world.World) model {
	t.Helper()
	if !w.Up() || w.Store() == nil {
		t.Fatalf("%s: up %v, store %v", what, w.Up(), w.Store())
	}
	m := model{values: map[string]api.Bucket{}, shelf: w.Shelf()}
	l := w.Store().Names()
	if !slices.IsSorted(l) {
		t.Fatalf("%s: Names: %q", what, l)
	}
	for _, name := range l {
		b, err := w.Store().Value(name)
		if _, twice := m.values[name]; err != api.OK || twice {
			t.Fatalf("%s: Value(%q): %d, twice %v", what, name, err, twice)
		}
		m.values[name] = b
	}
	return m
}

// holds: a world is up and has just these buckets and this shelf.
func holds(t *testing.T, what string, w *world.World, m model) {
	t.Helper()
	if got := found(t, what, w); !got.is(m) {
		t.Fatalf("%s: the world holds %s, want %s", what, got, m)
	}
}

// isDown: a world is down, and has this shelf.
func isDown(t *testing.T, what string, w *world.World, shelf []string) {
	t.Helper()
	if w.Up() || w.Store() != nil || !slices.Equal(w.Shelf(), shelf) {
		t.Fatalf("%s: up %v, store %v, %d on the shelf, want down and %d", what, w.Up(), w.Store(), len(w.Shelf()), len(shelf))
	}
}

// tells: steps that change nothing tell what the chapter says of m. Exports go
// onto the shelf: it is the world behind them.
func tells(t *testing.T, what string, w *world.World, m model) model {
	t.Helper()
	holds(t, what, w, m)
	m = answers(t, what, w, m, world.Step{Kind: world.Names})
	for _, name := range append(m.names(), "not-there") {
		m = answers(t, what, w, m, world.Step{Kind: world.Export, Bucket: name})
		// Of many versions some are asked for.
		l := append(slices.Clone(m.values[name].Versions), v("not there", m.values[name].Next))
		for i := 0; i < len(l); i += 1 + len(l)/5 {
			for _, kind := range looks {
				for _, seq := range []int64{l[i].Seq, l[i].Seq + 1} {
					m = answers(t, what, w, m, world.Step{Kind: kind, Bucket: name, Key: l[i].Key, Seq: seq, N: 5})
				}
			}
		}
	}
	return m
}

// answers: the world answers a step as the chapter says of m. It is the world
// behind it.
func answers(t *testing.T, what string, w *world.World, m model, s world.Step) model {
	t.Helper()
	want, behind := m.by(s)
	if got := w.Do(s); !toldSame(got, want) {
		t.Fatalf("%s: P21.1: %s of %s: %s, want %s", what, said(s), m, toldAs(got), toldAs(want))
	}
	return behind
}

// isRoom: is it an error for want of room?
func isRoom(err api.Errno) bool { return err == api.ErrSpace || err == api.ErrLog }

// answersForRoom is answers, where a step that would change something may be
// refused for room; then the world is as it was. It tells whether it was.
func answersForRoom(t *testing.T, what string, w *world.World, m model, s world.Step) (model, bool) {
	t.Helper()
	want, behind := m.by(s)
	got := w.Do(s)
	if want.Err == api.OK && isOf(s.Kind, changes...) && isRoom(got.Err) && isAlone(got, got.Err) {
		return m, true
	}
	if !toldSame(got, want) {
		t.Fatalf("%s: P21.1: %s of %s: %s, want %s", what, said(s), m, toldAs(got), toldAs(want))
	}
	return behind, false
}
