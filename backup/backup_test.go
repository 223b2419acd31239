package backup_test

import (
	"fmt"
	"iter"
	"maps"
	"math"
	"slices"
	"strings"
	"testing"

	"coffer/api"
	"coffer/archive"
	"coffer/backup"
	"coffer/bucket"
	"coffer/disk"
	"coffer/log"
	"coffer/vstore"
)

// face is all that a Store has.
type face interface {
	Names() []string
	Make(name string) api.Errno
	Drop(name string) api.Errno
	Put(name, key, data string, meta []api.Pair) (int64, api.Errno)
	Delete(name, key string) (int64, api.Errno)
	DeleteVersion(name, key string, seq int64) api.Errno
	Get(name, key string) (api.Version, api.Errno)
	GetVersion(name, key string, seq int64) (api.Version, api.Errno)
	List(name, from string, most int) ([]api.Row, api.Errno)
	Versions(name, from string, most int) ([]api.Row, api.Errno)
	Value(name string) (api.Bucket, api.Errno)
	Export(name string) (string, api.Errno)
	ExportSince(name string, m int64) (string, api.Errno)
	Import(name, archive string) api.Errno
	Apply(name, archive string) api.Errno
}

// TestFace: a Store has vstore's calls, but not Set and Replace.
func TestFace(t *testing.T) {
	_, s := great(t, nil)
	var all any = s
	if _, has := all.(face); !has {
		t.Errorf("P20.1: a Store hasn't all of its calls")
	}
	if _, has := all.(interface {
		Set(name string, b api.Bucket) api.Errno
	}); has {
		t.Errorf("P20.1: a Store has Set")
	}
	if _, has := all.(interface {
		Replace(name string, b api.Bucket) api.Errno
	}); has {
		t.Errorf("P20.1: a Store has Replace")
	}
}

func TestExamples(t *testing.T) {
	_, s := great(t, nil)
	sameAs := func(what string) {
		t.Helper()
		a, err := s.Value("a")
		b, errB := s.Value("b")
		if err != 0 || errB != 0 || !sameValue(a, b) {
			t.Errorf("P20.1: %s: a is %+v, %d, b is %+v, %d", what, a, err, b, errB)
		}
	}
	wants(t, "Make a", s.Make("a"), 0)
	s.Put("a", "k", "one", nil)
	x, err := s.Export("a")
	wants(t, "Export a", err, 0)
	wants(t, "Import b x", s.Import("b", x), 0)
	sameAs("example 1")
	if again, err := s.Export("b"); again != x || err != 0 {
		t.Errorf("P20.2: Export b: %q, %d, want %q", again, err, x)
	}
	wants(t, "Import b x again", s.Import("b", x), 71)
	wants(t, "Import c of no archive", s.Import("c", "x"), 90)
	y, err := s.ExportSince("a", 2)
	if b, since, unpackErr := archive.Unpack(y); err != 0 || unpackErr != 0 || since != 2 || !sameValue(b, of(2)) {
		t.Errorf("P20.1: ExportSince a 2: %q, %d", y, err)
	}
	s.Put("a", "k", "two", nil)
	z, err := s.ExportSince("a", 2)
	wants(t, "ExportSince a 2", err, 0)
	wants(t, "Apply b z", s.Apply("b", z), 0)
	sameAs("example 2")
	wants(t, "Apply b z again", s.Apply("b", z), 91)
	wants(t, "Apply b x", s.Apply("b", x), 90)
	wants(t, "Import c z", s.Import("c", z), 90)
	for _, m := range []int64{9, 0} {
		if text, err := s.ExportSince("a", m); text != "" || err != 1 {
			t.Errorf("P20.1: ExportSince a %d: %q, %d", m, text, err)
		}
	}
	sameAs("at last")
}

// sectorsOf is all that is seen on a disk.
func sectorsOf(t *testing.T, d *disk.Disk) []string {
	t.Helper()
	var l []string
	for n := range d.Sectors() {
		text, err := d.Read(n)
		wants(t, "Read", err, api.OK)
		l = append(l, text)
	}
	return l
}

// TestOpen: disks and logs of all small sizes, new ones and with a store of
// another size: Open answers as layer 16's, and leaves the same on the disk.
func TestOpen(t *testing.T) {
	opened := map[api.Errno]int{}
	tries := func(d *disk.Disk, size int) {
		t.Helper()
		d, other := d.Copy(), d.Copy()
		s, err := backup.Open(d, size)
		_, want := vstore.Open(other, size)
		if err != want || (s == nil) != (err != api.OK) {
			t.Fatalf("P20.1: Open of %d sectors, %d of them the log's: %v, %d, want %d", d.Sectors(), size, s, err, want)
		}
		opened[err]++
		if d.Off() || other.Off() {
			return
		}
		if d.Pending() != 0 || !slices.Equal(sectorsOf(t, d), sectorsOf(t, other)) {
			t.Fatalf("P20.1: Open of %d sectors, %d of them the log's: the disk is another than behind layer 16's", d.Sectors(), size)
		}
		if err == api.OK {
			holds(t, "P20.1: a new store", s, model{})
			wants(t, "Import", s.Import("A", ""), 60)
			wants(t, "Import", s.Import("a", ""), 90)
			wants(t, "Apply", s.Apply("a", packed(of(1), 1)), 70)
		}
	}
	used, _ := laid(t, 20, 10, nil)
	torn := newDisk(t, 20)
	wants(t, "Write", torn.Write(0, times(512, "x")), api.OK)
	others := newDisk(t, 20)
	_, err := log.Open(others, 10)
	wants(t, "log.Open", err, api.OK)
	wants(t, "Write", others.Write(10, times(512, "x")), api.OK)
	for _, d := range []*disk.Disk{torn, others} {
		wants(t, "Flush", d.Flush(), api.OK)
	}
	off, _ := laid(t, 20, 10, nil)
	off.Crash(nil)
	for size := -2; size <= 22; size++ {
		for sectors := 1; sectors <= 20; sectors++ {
			tries(newDisk(t, sectors), size)
		}
		for _, d := range []*disk.Disk{used, torn, others, off} {
			tries(d, size)
		}
	}
	for _, size := range []int{math.MinInt, math.MaxInt, 8191, 8192, 2048} {
		tries(newDisk(t, 8192), size)
		tries(used, size)
	}
	for _, err := range []api.Errno{api.OK, api.ErrArg, api.ErrOff, api.ErrSpace, api.ErrLog, api.ErrTorn} {
		if opened[err] == 0 {
			t.Errorf("no Open answers %d: %v", err, opened)
		}
	}
}

// TestOpenAgain: opened again the store is the same, what was imported and laid
// on too; opened with another size it is refused and stays.
func TestOpenAgain(t *testing.T) {
	d, s := great(t, model{"a": of(9, v("k", 7)), "b": of(1)})
	m := valuesOf(t, "at first", s)
	m = answers(t, "again", s, m, call{kind: "Import", name: "c", text: packed(filled(40, 9000, 4, 1), 0)})
	m = answers(t, "again", s, m, call{kind: "Apply", name: "a", text: packed(of(20, gone("j", 10), v("k", 9)), 9)})
	for range 3 {
		if s, err := backup.Open(d, 2047); s != nil || err != api.ErrArg {
			t.Errorf("P20.1: Open with another size: %v, %d", s, err)
		}
		tells(t, "P20.1: opened again", opens(t, "again", d, 2048), m)
	}
}

// TestOthersWrote: disks that others wrote to: every call ends, and none panics;
// with an error there is no other answer.
func TestOthersWrote(t *testing.T) {
	const size = 40
	x := seed(10)
	m := model{"a": x.from(1, 12, 300), "b": of(9, v("k", 7)), "c": filled(9, 3000, 3, 1)}
	d, _ := laid(t, 160, size, m)
	for range 1000 {
		other := d.Copy()
		s := opens(t, "as it was", other, size)
		for range 1 + x.below(3) {
			n := size + x.below(d.Sectors()-size)
			text, err := other.Read(n)
			wants(t, "Read", err, api.OK)
			at := one(x, x.below(512), x.below(40))
			wants(t, "Write", other.Write(n, turned(text, at, byte(x.number()))), api.OK)
		}
		wants(t, "Flush", other.Flush(), api.OK)
		if again, err := backup.Open(other.Copy(), size); err == api.OK {
			s = again
		}
		for range 12 {
			if got := x.call(m, kinds, 300).ask(s); got.err != api.OK && !got.is(told{err: got.err}) {
				t.Fatalf("R2: with an error more is told: %s", got)
			}
		}
	}
}

// edges is a store that has a bucket at each limit.
func edges() model {
	all := filled(256, 65536, 5, 1)
	all.Next = maxNext
	return model{
		"fine":  of(9, v("j", 3), gone("j", 5), v("k", 1), v("k", 7)),
		"empty": of(1),
		"count": filled(256, 20000, 5, 1),
		"bytes": filled(70, 65536, 5, 1),
		"seq":   of(maxNext, v("k", 1), v("k", maxNext-1)),
		"all":   all,
	}
}

// TestErrors: each call with each thing wrong, and with all others wrong too:
// the first that is named is answered, and nothing is changed.
func TestErrors(t *testing.T) {
	m := edges()
	d, s := great(t, m)
	bucketNames := append(m.names(), "none", "", "Fine", "a_b", "fine\x00", times(33, "n"))
	archives := []string{
		"", "x", packed(of(3, v("k", 2)), 0), packed(of(3), 1), packed(of(10, v("k", 9)), 9), packed(of(10, v("k", 9)), 8),
		packed(of(258, gone("k", 257)), 257), packed(of(999, gone("k", 100)), 71), packed(of(maxNext), maxNext), packed(of(maxNext), 0),
	}
	for _, kind := range kinds {
		for _, name := range bucketNames {
			for _, key := range []string{"k", "j", "none", "", times(33, "k")} {
				for i, text := range archives {
					c := call{kind: kind, name: name, key: key, text: text}
					c.seq = []int64{1, 2, 7, 9, 10, 0, -1, maxNext, maxNext + 1, least}[i]
					c.most = i - 2
					if i&1 > 0 {
						c.data = times(1025, "d")
					}
					if i&2 > 0 {
						c.meta = pairs("b", "", "a", "")
					}
					on := s
					if want, _ := c.by(m); want.err == 0 && slices.Contains(changes, kind) {
						on = opens(t, "a copy", d.Copy(), 2048)
					}
					answers(t, "each error", on, m, c)
				}
			}
		}
		holds(t, "P20.5: behind all that "+kind+" refused", s, m)
	}
}

// TestFirstError: the errors and their order by number, where several apply.
func TestFirstError(t *testing.T) {
	m := edges()
	d, s := great(t, m)
	whole, delta := packed(of(9, v("k", 3)), 0), func(since int64) string { return packed(of(since+1, v("k", since)), since) }
	for _, one := range []struct {
		c    call
		want api.Errno
	}{
		{call{kind: "Export", name: "Fine"}, 60},
		{call{kind: "Export", name: ""}, 60},
		{call{kind: "Export", name: "none"}, 70},
		{call{kind: "ExportSince", name: "Fine", seq: 0}, 60},
		{call{kind: "ExportSince", name: "none", seq: 0}, 70},
		{call{kind: "ExportSince", name: "none", seq: 1}, 70},
		{call{kind: "ExportSince", name: "fine", seq: 0}, 1},
		{call{kind: "ExportSince", name: "fine", seq: 10}, 1},
		{call{kind: "ExportSince", name: "fine", seq: 9}, 0},
		{call{kind: "ExportSince", name: "empty", seq: 1}, 0},
		{call{kind: "ExportSince", name: "empty", seq: 2}, 1},
		{call{kind: "ExportSince", name: "seq", seq: maxNext}, 0},
		{call{kind: "ExportSince", name: "seq", seq: maxNext + 1}, 1},
		{call{kind: "Import", name: "Fine", text: "x"}, 60},
		{call{kind: "Import", name: "Fine", text: whole}, 60},
		{call{kind: "Import", name: "fine", text: "x"}, 90},
		{call{kind: "Import", name: "none", text: ""}, 90},
		{call{kind: "Import", name: "fine", text: delta(9)}, 90},
		{call{kind: "Import", name: "none", text: delta(9)}, 90},
		{call{kind: "Import", name: "fine", text: whole}, 71},
		{call{kind: "Import", name: "none", text: whole}, 0},
		{call{kind: "Apply", name: "Fine", text: "x"}, 60},
		{call{kind: "Apply", name: "Fine", text: delta(9)}, 60},
		{call{kind: "Apply", name: "none", text: "x"}, 90},
		{call{kind: "Apply", name: "none", text: whole}, 90},
		{call{kind: "Apply", name: "fine", text: whole}, 90},
		{call{kind: "Apply", name: "none", text: delta(9)}, 70},
		{call{kind: "Apply", name: "fine", text: delta(8)}, 91},
		{call{kind: "Apply", name: "fine", text: delta(10)}, 91},
		{call{kind: "Apply", name: "fine", text: delta(9)}, 0},
		{call{kind: "Apply", name: "all", text: delta(257)}, 91},
		{call{kind: "Apply", name: "count", text: delta(258)}, 91},
		{call{kind: "Apply", name: "count", text: delta(257)}, 75},
		{call{kind: "Apply", name: "bytes", text: delta(70)}, 91},
		{call{kind: "Apply", name: "bytes", text: delta(71)}, 76},
		{call{kind: "Apply", name: "seq", text: packed(of(maxNext), maxNext)}, 0},
	} {
		on := opens(t, "a copy", d.Copy(), 2048)
		if got := one.c.ask(on); got.err != one.want || one.want != 0 && !got.is(told{err: one.want}) {
			t.Errorf("P20.1: %s: %s, want %d", one.c, got, one.want)
		}
		if one.want != 0 {
			holds(t, "P20.5: "+one.c.String(), on, m)
		}
	}
	holds(t, "P20.5", s, m)
}

// values are right values of all kinds.
func values() map[string]api.Bucket {
	return map[string]api.Bucket{
		"empty":                of(1),
		"all removed":          of(9),
		"all removed, at last": of(maxNext),
		"a marker alone":       of(2, gone("k", 1)),
		"markers alone":        of(9, gone("a", 3), gone("a", 8), gone("ab", 1), gone("b", 5)),
		"one version":          of(2, v("k", 1)),
		"one of the last":      of(maxNext, v("k", maxNext-1)),
		"one without data":     of(9, api.Version{Key: "k", Seq: 3}),
		"keys begin others":    of(9, v("\x00", 6), v("a", 5), v("a\x00", 4), gone("a\x00a", 3), v("ab", 2), v("b", 1)),
		"much metadata":        of(9, api.Version{Key: times(32, "\xff"), Seq: 2, Data: times(1024, "\x00"), Meta: pairs("-", times(64, "v"), "0", "", "a", "=", "ab", "\n", "b", "", "c", "", "d", "", "sixteen-letters-", times(64, "\x00"))}),
		"as many as may be":    filled(256, 20000, 5, 1),
		"markers, as many":     of(257, markers(256)...),
		"as many bytes":        filled(64, 65536, 32, 1),
		"as many of both":      filled(256, 65536, 32, 1),
	}
}

// markers is n markers of one key.
func markers(n int64) []api.Version {
	var l []api.Version
	for seq := range n {
		l = append(l, gone("k", seq+1))
	}
	return l
}

// inOrderOf goes through values, by what is said of them.
func inOrderOf(values map[string]api.Bucket) iter.Seq2[string, api.Bucket] {
	return func(yield func(string, api.Bucket) bool) {
		for _, what := range slices.Sorted(maps.Keys(values)) {
			if !yield(what, values[what]) {
				return
			}
		}
	}
}

// around are the numbers at which something may change in what a value has since.
func around(b api.Bucket) []int64 {
	l := []int64{least, least + 1, -maxNext, -1, 0, 1, 2, b.Next - 1, b.Next, b.Next + 1, maxNext, maxNext + 1, greatest}
	for i := 0; i < len(b.Versions); i += 1 + len(b.Versions)/20 {
		seq := b.Versions[i].Seq
		l = append(l, seq-1, seq, seq+1)
	}
	slices.Sort(l)
	return slices.Compact(l)
}

// TestValues: each right value: its export, under the same name and another one
// there and back, what it has from each number on; and it goes on.
func TestValues(t *testing.T) {
	for what, b := range inOrderOf(values()) {
		d, s := great(t, model{"other": of(2, v("k", 1)), "there": b})
		m := valuesOf(t, what, s)
		text, err := s.Export("there")
		if want := packed(b, 0); text != want || err != api.OK {
			t.Fatalf("P20.1: %s: Export: %.400q, %d, want %.400q", what, text, err, want)
		}
		m = answers(t, what, s, m, call{kind: "Import", name: "new", text: text})
		tells(t, "P20.2: "+what, s, m)
		tells(t, "P20.2: "+what+", opened anew", opens(t, what, d, 2048), m)
		for _, n := range around(b) {
			answers(t, what, s, m, call{kind: "ExportSince", name: "there", seq: n})
			answers(t, what, s, m, call{kind: "ExportSince", name: "none", seq: n})
		}
		m = answers(t, what, s, m, call{kind: "Drop", name: "there"})
		m = answers(t, what, s, m, call{kind: "Import", name: "there", text: text})
		for _, name := range []string{"new", "there"} {
			m = answers(t, what, s, m, call{kind: "Put", name: name, key: "k", data: "more"})
			m = answers(t, what, s, m, call{kind: "Delete", name: name, key: "k"})
			tells(t, "behind "+what, s, m)
			m = answers(t, what, s, m, call{kind: "Drop", name: name})
		}
		tells(t, "P20.2: the others, behind "+what, s, m)
	}
}

// TestExport: of buckets that calls have made: with nothing ever, with all
// removed, with markers alone, with as many versions as may be.
func TestExport(t *testing.T) {
	_, s := great(t, nil)
	m := model{}
	exports := func(name string) {
		t.Helper()
		m = answers(t, "P20.1", s, m, call{kind: "Export", name: name})
		for _, n := range around(m[name]) {
			m = answers(t, "P20.1", s, m, call{kind: "ExportSince", name: name, seq: n})
		}
	}
	m = answers(t, "export", s, m, call{kind: "Make", name: "a"})
	want := "13 kind=full\n19 format=coffer-1\n9 next=1\n11 count=0\n16 end=manifest\n73 root=dbc1b4c900ffe48d575b5da5c638040125f65db0fe3e24494b76ea986457d986\n13 length=68\n"
	if text, err := s.Export("a"); text != want || err != 0 {
		t.Errorf("P20.1: Export of an empty bucket: %q, %d, want %q", text, err, want)
	}
	want = "14 kind=delta\n19 format=coffer-1\n9 next=1\n11 since=1\n11 count=0\n16 end=manifest\n73 root=dbc1b4c900ffe48d575b5da5c638040125f65db0fe3e24494b76ea986457d986\n13 length=80\n"
	if text, err := s.ExportSince("a", 1); text != want || err != 0 {
		t.Errorf("P20.1: ExportSince of an empty bucket: %q, %d, want %q", text, err, want)
	}
	exports("a")
	for _, key := range []string{"k", "j", "k"} {
		m = answers(t, "markers", s, m, call{kind: "Delete", name: "a", key: key})
		exports("a")
	}
	for _, v := range m["a"].Versions {
		m = answers(t, "removed", s, m, call{kind: "DeleteVersion", name: "a", key: v.Key, seq: v.Seq})
		exports("a")
	}
	if b := m["a"]; b.Next != 4 || len(b.Versions) != 0 {
		t.Fatalf("the bucket is %+v", b)
	}
	for n := range 256 {
		m = answers(t, "many", s, m, call{kind: "Put", name: "a", key: fmt.Sprint(n % 7), data: times(n%3, "d"), meta: pairs("n", fmt.Sprint(n))})
		if n >= 254 {
			exports("a")
		}
	}
	wants(t, "one more", call{kind: "Put", name: "a", key: "k"}.ask(s).err, 75)
	exports("a")
}

// walk makes calls of all kinds, and is all that was told.
func walk(t *testing.T, n, sectors, size, steps int) string {
	t.Helper()
	x := seed(n)
	d := newDisk(t, sectors)
	s := opens(t, "walk", d, size)
	m := model{}
	var all strings.Builder
	for i := range steps {
		what := fmt.Sprintf("walk %d, step %d", n, i)
		c := x.call(m, slices.Concat(kinds, changes, []string{"Put", "Put", "Put", "Delete", "Export", "ExportSince", "Apply"}), 300)
		if want, _ := c.by(m); want.text != "" {
			x.shelf = append(x.shelf, want.text)
		}
		is, refused := answersForRoom(t, what, s, m, c)
		m = is
		fmt.Fprintln(&all, c, refused, m)
		switch x.below(20) {
		case 0:
			tells(t, what, s, m)
		case 1:
			s = opens(t, what, d, size)
			holds(t, "opened again: "+what, s, m)
		}
		if d.Pending() != 0 {
			t.Fatalf("%s: P20.6: %d writes are pending behind what was answered", what, d.Pending())
		}
	}
	tells(t, "at last", opens(t, "at last", d, size), m)
	return all.String()
}

// TestWalks: calls of all kinds on disks of all sizes, as the chapter says.
func TestWalks(t *testing.T) {
	for n, sectors := range []int{8192, 8192, 400, 200, 100, 60, 40, 24, 16, 12} {
		walk(t, n, sectors, min(2048, sectors/2), 400)
		walk(t, n, sectors, min(9, sectors/2), 400)
	}
}

// TestTwice: the same calls on new stores tell the same, and what runs beside
// shows nowhere.
func TestTwice(t *testing.T) {
	first := walk(t, 77, 120, 40, 300)
	for range 8 {
		t.Run("beside others", func(t *testing.T) {
			t.Parallel()
			if again := walk(t, 77, 120, 40, 300); again != first {
				t.Errorf("R4: the same calls tell another thing")
			}
		})
	}
}

// TestModel: without archives a Store answers as layer 15 on named values, on a
// great disk, and never for want of room.
func TestModel(t *testing.T) {
	x := seed(5)
	_, s := great(t, nil)
	m := model{}
	for range 1500 {
		c := x.call(m, []string{"Names", "Make", "Drop", "Put", "Put", "Put", "Delete", "DeleteVersion", "Get", "GetVersion", "List", "Versions", "Value"}, 60)
		m = answers(t, "T1", s, m, c)
		if !m.little() {
			t.Fatalf("T1: too much: %s", m)
		}
	}
	for _, name := range m.names() {
		if !bucket.Right(m[name]) {
			t.Errorf("T6: %q isn't right", name)
		}
	}
	tells(t, "T1", s, m)
}
