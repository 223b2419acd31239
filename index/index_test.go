package index_test

import (
	"fmt"
	"maps"
	"math"
	"slices"
	"strings"
	"testing"

	"coffer/api"
	"coffer/disk"
	"coffer/index"
	"coffer/log"
	"coffer/space"
	"coffer/txn"
)

// texter tells numbers and texts that look like chance and are the same each time.
type texter struct{ x uint64 }

func (t *texter) number() uint64 {
	t.x += 0x9e3779b97f4a7c15
	z := t.x
	z = (z ^ z>>30) * 0xbf58476d1ce4e5b9
	z = (z ^ z>>27) * 0x94d049bb133111eb
	return z ^ z>>31
}

func (t *texter) below(n int) int { return int(t.number() % uint64(n)) }

// text has n bytes of all kinds.
func (t *texter) text(n int) string {
	b := make([]byte, n)
	for i := range b {
		b[i] = byte(t.number())
	}
	return string(b)
}

// mixed is a list in no order.
func (t *texter) mixed(list []string) []string {
	list = slices.Clone(list)
	for i := range list {
		k := t.below(i + 1)
		list[i], list[k] = list[k], list[i]
	}
	return list
}

// value has a length about one where something changes.
func (t *texter) value() string {
	edges := []int{0, 1, 20, 149, 150, 151, 512, 513, 1024, 1025, 1536, 1537, 2048}
	n := edges[t.below(len(edges))]
	if t.below(3) == 0 {
		n = t.below(2049)
	}
	return t.text(n)
}

// full is a block of one letter.
func full(c byte) string { return times(512, string([]byte{c})) }

func times(n int, letter string) string { return strings.Repeat(letter, n) }

// first is where the spaces begin.
const first = 2

func wants(t *testing.T, what string, got, want api.Errno) {
	t.Helper()
	if got != want {
		t.Fatalf("%s: %d, want %d", what, got, want)
	}
}

func opens(t *testing.T, what string, d *disk.Disk, size int) *log.Log {
	t.Helper()
	l, err := log.Open(d, size)
	if err != api.OK {
		t.Fatalf("%s: log.Open of %d sectors: %d", what, d.Sectors(), err)
	}
	return l
}

// blank is a log with size sectors for itself and so many blocks, and its disk.
func blank(t *testing.T, size, blocks int) (*log.Log, *disk.Disk) {
	t.Helper()
	d, err := disk.New(size + blocks)
	if err != api.OK {
		t.Fatalf("disk.New(%d): %d", size+blocks, err)
	}
	return opens(t, "a new disk", d, size), d
}

// laid is a space of a log with so many blocks, in a transaction that is under way.
func laid(t *testing.T, blocks int) *space.Space {
	t.Helper()
	l, _ := blank(t, 8, blocks)
	s, err := space.Make(txn.Begin(l), first)
	wants(t, "space.Make", err, api.OK)
	return s
}

func ats(t *testing.T, what string, l *log.Log) *space.Space {
	t.Helper()
	s, err := space.At(txn.Begin(l), first)
	wants(t, what+": space.At", err, api.OK)
	return s
}

func makes(t *testing.T, what string, s *space.Space) *index.Index {
	t.Helper()
	left, dirty := s.Left(), s.Tx().Dirty()
	i, err := index.Make(s)
	if i == nil || err != api.OK {
		t.Fatalf("%s: P11.1: Make: %v, %d", what, i, err)
	}
	if took := left - s.Left(); took < 0 || took > 4 {
		t.Fatalf("%s: P11.1: Make takes %d blocks", what, took)
	}
	// The bitmap of a space has two blocks at most.
	if wrote := s.Tx().Dirty() - dirty; wrote > left-s.Left()+2 {
		t.Fatalf("%s: P11.1: Make writes %d blocks", what, wrote)
	}
	return i
}

func puts(t *testing.T, what string, i *index.Index, key, value string, want api.Errno) {
	t.Helper()
	if err := i.Put(key, value); err != want {
		t.Fatalf("%s: P11.1: Put(%q, %d bytes): %d, want %d", what, key, len(value), err, want)
	}
}

func gets(t *testing.T, what string, i *index.Index, key, want string, wantErr api.Errno) {
	t.Helper()
	if got, err := i.Get(key); got != want || err != wantErr {
		t.Fatalf("%s: P11.2: Get(%q): %.20q (%d bytes), %d, want %.20q (%d bytes), %d", what, key, got, len(got), err, want, len(want), wantErr)
	}
}

func deletes(t *testing.T, what string, i *index.Index, key string, want api.Errno) {
	t.Helper()
	if err := i.Delete(key); err != want {
		t.Fatalf("%s: P11.1: Delete(%q): %d, want %d", what, key, err, want)
	}
}

func lefts(t *testing.T, what string, s *space.Space, want int) {
	t.Helper()
	if got := s.Left(); got != want {
		t.Fatalf("%s: P11.4: %d blocks left, want %d", what, got, want)
	}
}

// told is what Range tells, and its error.
func told(i *index.Index, from, to string) ([]api.Entry, api.Errno) {
	var l []api.Entry
	err := i.Range(from, to, func(key, value string) bool {
		l = append(l, api.Entry{Key: key, Value: value})
		return true
	})
	return l, err
}

// book is what an index is to hold.
type book map[string]string

func (b book) keys() []string { return slices.Sorted(maps.Keys(b)) }

// part is what Range is to tell.
func (b book) part(from, to string) []api.Entry {
	var l []api.Entry
	for _, key := range b.keys() {
		if key >= from && (to == "" || key < to) {
			l = append(l, api.Entry{Key: key, Value: b[key]})
		}
	}
	return l
}

func ranges(t *testing.T, what string, i *index.Index, b book, from, to string) {
	t.Helper()
	got, err := told(i, from, to)
	wants(t, fmt.Sprintf("%s: P11.1: Range(%q, %q)", what, from, to), err, api.OK)
	if want := b.part(from, to); !slices.Equal(got, want) {
		t.Fatalf("%s: P11.2: Range(%q, %q) tells %.300q, want %.300q", what, from, to, fmt.Sprint(got), fmt.Sprint(want))
	}
}

// holds: does the index hold just this?
func holds(t *testing.T, what string, i *index.Index, b book) {
	t.Helper()
	ranges(t, what, i, b, "", "")
	for key, value := range b {
		gets(t, what, i, key, value, api.OK)
		for _, near := range []string{key + "\x00", key[:len(key)-1]} {
			want, there := b[near]
			if !there {
				gets(t, what, i, near, "", api.ErrNone)
			} else {
				gets(t, what, i, near, want, api.OK)
			}
		}
	}
}

// isBook: does it hold just this, by what Range tells?
func isBook(i *index.Index, b book) bool {
	got, err := told(i, "", "")
	return err == api.OK && slices.Equal(got, b.part("", ""))
}

// TestExamples: the chapter's, each as it stands there.
func TestExamples(t *testing.T) {
	l, _ := blank(t, 40, 100)
	s, err := space.Make(txn.Begin(l), first)
	wants(t, "space.Make", err, api.OK)
	i := makes(t, "example 1", s)
	gets(t, "example 1", i, "a", "", api.ErrNone)
	puts(t, "example 1", i, "b", "1", api.OK)
	puts(t, "example 1", i, "a", "", api.OK)
	puts(t, "example 1", i, "b", "2", api.OK)
	gets(t, "example 1", i, "b", "2", api.OK)
	gets(t, "example 1", i, "a", "", api.OK)
	for _, c := range []struct{ from, to, want string }{{"", "", "a= b=2"}, {"a\x00", "", "b=2"}, {"", "b", "a="}, {"b", "a", ""}} {
		l, err := told(i, c.from, c.to)
		wants(t, "example 1: Range", err, api.OK)
		var said []string
		for _, e := range l {
			said = append(said, e.Key+"="+e.Value)
		}
		if got := strings.Join(said, " "); got != c.want {
			t.Fatalf("example 1: Range(%q, %q) tells %q, want %q", c.from, c.to, got, c.want)
		}
	}
	deletes(t, "example 1", i, "a", api.OK)
	deletes(t, "example 1", i, "a", api.ErrNone)

	puts(t, "example 2", i, "", "x", api.ErrArg)
	puts(t, "example 2", i, times(101, "k"), "x", api.ErrArg)
	puts(t, "example 2", i, "k", times(2049, "v"), api.ErrArg)
	gets(t, "example 2", i, "", "", api.ErrNone)
	deletes(t, "example 2", i, "", api.ErrNone)
	puts(t, "example 2", i, "k", times(2048, "v"), api.OK)
	holds(t, "example 2", i, book{"b": "2", "k": times(2048, "v")})

	three := makes(t, "example 3", s)
	for _, key := range []string{"b", "a\xff", "a", "a\x00"} {
		puts(t, "example 3", three, key, "", api.OK)
	}
	got, err := told(three, "", "")
	if want := []api.Entry{{Key: "a"}, {Key: "a\x00"}, {Key: "a\xff"}, {Key: "b"}}; err != api.OK || !slices.Equal(got, want) {
		t.Fatalf("example 3: %q, %d", got, err)
	}

	root := i.Root()
	wants(t, "example 4: Commit", s.Tx().Commit(), api.OK)
	s = ats(t, "example 4", l)
	i = index.At(s, root)
	holds(t, "example 4", i, book{"b": "2", "k": times(2048, "v")})
	puts(t, "example 4", i, "c", "3", api.OK)
	s.Tx().Abort()
	holds(t, "example 4", index.At(ats(t, "example 4", l), root), book{"b": "2", "k": times(2048, "v")})
}

// TestKeys: which texts are keys, by their length alone.
func TestKeys(t *testing.T) {
	for _, letter := range []string{"\x00", "k", "\xff"} {
		s := laid(t, 120)
		i := makes(t, "keys", s)
		behind := s.Left()
		puts(t, "keys", i, "other", "1", api.OK)
		b := book{"other": "1"}
		for _, n := range []int{0, 1, 2, 50, 99, 100, 101, 102, 255, 256, 356, 100000} {
			key := times(n, letter)
			what := fmt.Sprintf("a key of %d bytes %q", n, letter)
			gets(t, what, i, key, "", api.ErrNone)
			deletes(t, what, i, key, api.ErrNone)
			if n == 0 || n > 100 {
				puts(t, what, i, key, "v", api.ErrArg)
				gets(t, what, i, key, "", api.ErrNone)
				deletes(t, what, i, key, api.ErrNone)
			} else {
				puts(t, what, i, key, what, api.OK)
				b[key] = what
			}
			holds(t, what, i, b)
		}
		for _, key := range b.keys() {
			deletes(t, "keys", i, key, api.OK)
			deletes(t, "keys", i, key, api.ErrNone)
			delete(b, key)
			holds(t, "keys", i, b)
		}
		lefts(t, "keys", s, behind)
	}
}

// lengths of values about which something might change.
func lengths() []int {
	return []int{0, 1, 2, 147, 148, 149, 150, 151, 152, 255, 256, 257, 511, 512, 513, 1023, 1024, 1025, 1535, 1536, 1537, 2047, 2048}
}

// TestValues: values of every length, with bytes that a filling or a mark might
// be taken for, are told as they were.
func TestValues(t *testing.T) {
	g := &texter{1}
	s := laid(t, 400)
	i := makes(t, "values", s)
	behind := s.Left()
	for _, n := range lengths() {
		for kind, value := range []string{times(n, "\x00"), times(n, "\x01"), times(n, "\xff"), g.text(n)} {
			key := fmt.Sprintf("%d of %d", kind, n)
			puts(t, "values", i, key, value, api.OK)
			gets(t, "values", i, key, value, api.OK)
			ranges(t, "values", i, book{key: value}, "", "")
			deletes(t, "values", i, key, api.OK)
			lefts(t, key, s, behind)
		}
	}
	b := book{}
	for _, n := range lengths() {
		b[fmt.Sprint(n)] = g.text(n)
		puts(t, "values", i, fmt.Sprint(n), b[fmt.Sprint(n)], api.OK)
	}
	for _, n := range []int{2049, 2050, 2560, 4096, 65536, 65537, 1 << 20} {
		puts(t, "values", i, "new", times(n, "v"), api.ErrArg)
		puts(t, "values", i, "0", times(n, "v"), api.ErrArg)
		puts(t, "values", i, "2048", times(n, "v"), api.ErrArg)
		puts(t, "values", i, "", times(n, "v"), api.ErrArg)
		puts(t, "values", i, times(101, "k"), times(n, "v"), api.ErrArg)
	}
	holds(t, "values", i, b)
}

// TestAgain: a value in the place of another, of every two lengths, in a leaf of
// its own and among others; nothing of the first is left.
func TestAgain(t *testing.T) {
	g := &texter{2}
	for _, others := range []int{0, 3, 40} {
		s := laid(t, 300)
		i := makes(t, "again", s)
		behind := s.Left()
		b := book{}
		for n := range others {
			key := fmt.Sprintf("%020d", n)
			b[key] = g.text(n)
			puts(t, "again", i, key, b[key], api.OK)
		}
		for _, was := range lengths() {
			for _, is := range lengths() {
				key := fmt.Sprintf("%020d.", others/2)
				puts(t, "again", i, key, g.text(was), api.OK)
				b[key] = g.text(is)
				puts(t, "again", i, key, b[key], api.OK)
				gets(t, "again", i, key, b[key], api.OK)
				puts(t, "again", i, key, b[key], api.OK)
				gets(t, "again", i, key, b[key], api.OK)
				if is == 149 {
					holds(t, fmt.Sprintf("%d bytes in the place of %d", is, was), i, b)
				}
				if is%2 == 0 {
					deletes(t, "again", i, key, api.OK)
					delete(b, key)
				}
			}
		}
		holds(t, "again", i, b)
		for key := range b {
			deletes(t, "again", i, key, api.OK)
		}
		lefts(t, "again", s, behind)
	}
}

// alike are all texts of one to three of five bytes: each begins with others.
func alike() []string {
	var l []string
	bytes := []string{"\x00", "\x01", "a", "\xfe", "\xff"}
	for _, x := range bytes {
		l = append(l, x)
		for _, y := range bytes {
			l = append(l, x+y)
			for _, z := range bytes {
				l = append(l, x+y+z)
			}
		}
	}
	return l
}

// TestOrder: keys that begin with one another stand by their bytes, and every
// part of them is told, whatever ends it has.
func TestOrder(t *testing.T) {
	g := &texter{3}
	s := laid(t, 400)
	i := makes(t, "order", s)
	ranges(t, "nothing", i, book{}, "", "")
	ranges(t, "nothing", i, book{}, "a", "b")
	b := book{}
	for _, key := range g.mixed(alike()) {
		b[key] = g.text(g.below(200))
		puts(t, "order", i, key, b[key], api.OK)
	}
	holds(t, "order", i, b)
	ends := []string{"", "\x00\x00\x00\x00", "a\x00\xff\xff", "b", "aa\x02", "\xff\xff\xff\xff", times(100, "a"), times(101, "a"), times(1000, "\xff"), times(1000, "\x00"), "\x00" + times(100, "\xff")}
	for k, key := range b.keys() {
		if k%9 == 0 {
			ends = append(ends, key)
		}
	}
	ends = append(ends, b.keys()[len(b)-1])
	for _, from := range ends {
		for _, to := range ends {
			ranges(t, "order", i, b, from, to)
		}
	}
}

// TestEnds: yield is called no more behind its false, wherever that is.
func TestEnds(t *testing.T) {
	g := &texter{4}
	s := laid(t, 900)
	i := makes(t, "ends", s)
	b := book{}
	for n := range 150 {
		key := fmt.Sprintf("%03d", n) + times(n%60, "k")
		b[key] = g.value()
		puts(t, "ends", i, key, b[key], api.OK)
	}
	for _, from := range []string{"", "0", "01", "05", "149"} {
		for _, to := range []string{"", "149", "2", "07"} {
			want := b.part(from, to)
			for n := range len(want) + 1 {
				var got []api.Entry
				err := i.Range(from, to, func(key, value string) bool {
					got = append(got, api.Entry{Key: key, Value: value})
					return len(got) != n+1
				})
				if err != api.OK || !slices.Equal(got, want[:min(n+1, len(want))]) {
					t.Fatalf("P11.1: Range(%q, %q) that ends at number %d of %d: tells %d, %d", from, to, n, len(want), len(got), err)
				}
			}
		}
	}
	wants(t, "P11.1: Range that tells nobody", i.Range("", "", nil), api.OK)
	holds(t, "ends", i, b)
}

// TestMeanwhile: what yield asks of the index meanwhile is answered, and Range
// goes on as if nothing had been asked.
func TestMeanwhile(t *testing.T) {
	g := &texter{5}
	s := laid(t, 400)
	i := makes(t, "meanwhile", s)
	b := book{}
	for n := range 60 {
		key := fmt.Sprintf("%02d", n) + times(n, "k")
		b[key] = g.value()
		puts(t, "meanwhile", i, key, b[key], api.OK)
	}
	root, keys := i.Root(), b.keys()
	var got []api.Entry
	err := i.Range("", "", func(key, value string) bool {
		got = append(got, api.Entry{Key: key, Value: value})
		if i.Root() != root {
			t.Fatalf("P11.1: Root, asked by a yield: %d, was %d", i.Root(), root)
		}
		for _, k := range []int{0, len(got) - 1, len(keys) - len(got), len(keys) - 1} {
			gets(t, "meanwhile", i, keys[k], b[keys[k]], api.OK)
		}
		gets(t, "meanwhile", i, "none", "", api.ErrNone)
		gets(t, "meanwhile", i, "", "", api.ErrNone)
		ranges(t, "meanwhile", i, b, key, "")
		ranges(t, "meanwhile", i, b, "", key)
		wants(t, "P11.1: a Range in a Range", i.Range("", "", func(string, string) bool { return false }), api.OK)
		holds(t, "meanwhile", index.At(s, root), b)
		return true
	})
	if err != api.OK || !slices.Equal(got, b.part("", "")) {
		t.Fatalf("P11.2: Range whose yield asks: %d, %d told of %d", err, len(got), len(b))
	}
}

// sorts of keys and values to fill a space with.
func sorts() map[string]func(g *texter, n int) (string, string) {
	return map[string]func(g *texter, n int) (string, string){
		"small":       func(g *texter, n int) (string, string) { return fmt.Sprintf("%04d", n), "twenty bytes of text" },
		"long keys":   func(g *texter, n int) (string, string) { return fmt.Sprintf("%0100d", n), "" },
		"long in all": func(g *texter, n int) (string, string) { return fmt.Sprintf("%0100d", n), g.text(149) },
		"great":       func(g *texter, n int) (string, string) { return fmt.Sprintf("%050d", n), g.text(2048) },
		"unlike": func(g *texter, n int) (string, string) {
			return fmt.Sprintf("%04d", n) + g.text(g.below(97)), g.value()
		},
		"one byte behind another": func(g *texter, n int) (string, string) {
			if n < 5000 {
				return times(1+n/255, "k") + string([]byte{byte(n % 255)}), g.text(n % 140)
			}
			return fmt.Sprint(n), ""
		},
	}
}

// orders in which keys are put and deleted.
func orders() map[string]func(g *texter, keys []string) []string {
	return map[string]func(g *texter, keys []string) []string{
		"rising": func(_ *texter, keys []string) []string { return slices.Sorted(slices.Values(keys)) },
		"falling": func(_ *texter, keys []string) []string {
			keys = slices.Sorted(slices.Values(keys))
			slices.Reverse(keys)
			return keys
		},
		"any": func(g *texter, keys []string) []string { return g.mixed(keys) },
		"from both ends": func(_ *texter, keys []string) []string {
			keys = slices.Sorted(slices.Values(keys))
			var l []string
			for k := range keys {
				if k%2 == 0 {
					l = append(l, keys[k/2])
				} else {
					l = append(l, keys[len(keys)-1-k/2])
				}
			}
			return l
		},
		"every seventh": func(_ *texter, keys []string) []string {
			keys = slices.Sorted(slices.Values(keys))
			var l []string
			for k := range 7 {
				for n := k; n < len(keys); n += 7 {
					l = append(l, keys[n])
				}
			}
			return l
		},
	}
}

// fills puts keys till one is refused for room, each in a transaction of its own,
// so that it can be given up; it is what the index holds then, and its root.
func fills(t *testing.T, what string, l *log.Log, root int, keys []string, value func(key string) string) (book, int) {
	t.Helper()
	b := book{}
	for _, key := range keys {
		s := ats(t, what, l)
		i := index.At(s, root)
		left, text := s.Left(), value(key)
		err := i.Put(key, text)
		if err == api.ErrSpace && left < 96 {
			s.Tx().Abort()
			break
		}
		wants(t, fmt.Sprintf("%s: P11.1: Put of number %d with %d blocks left", what, len(b), left), err, api.OK)
		b[key], root = text, i.Root()
		wants(t, what+": Commit", s.Tx().Commit(), api.OK)
	}
	return b, root
}

// TestFull: as many keys as a space has room for, put and deleted in each order:
// ErrSpace comes with fewer than 96 blocks left alone, and nothing leaks.
func TestFull(t *testing.T) {
	for name, sort := range sorts() {
		for put, inOrder := range orders() {
			for out, outOrder := range orders() {
				t.Run(fmt.Sprintf("%s, %s, then %s", name, put, out), func(t *testing.T) {
					t.Parallel()
					g := &texter{6}
					values := book{}
					for n := range 2500 {
						key, value := sort(g, n)
						values[key] = value
					}
					l, _ := blank(t, 160, 130)
					s, err := space.Make(txn.Begin(l), first)
					wants(t, "space.Make", err, api.OK)
					i := makes(t, "full", s)
					behind, root := s.Left(), i.Root()
					wants(t, "Commit", s.Tx().Commit(), api.OK)
					b, root := fills(t, "full", l, root, inOrder(g, values.keys()), func(key string) string { return values[key] })
					if len(b) == len(values) {
						t.Fatalf("the space was never full")
					}
					s = ats(t, "full", l)
					i = index.At(s, root)
					holds(t, "full", i, b)
					empties(t, "full", i, b, outOrder(g, b.keys()))
					lefts(t, "full", s, behind)
				})
			}
		}
	}
}

// empties deletes all that the book holds, in this order.
func empties(t *testing.T, what string, i *index.Index, b book, keys []string) {
	t.Helper()
	for n, key := range keys {
		gets(t, what, i, key, b[key], api.OK)
		deletes(t, what, i, key, api.OK)
		deletes(t, what, i, key, api.ErrNone)
		delete(b, key)
		if n%16 == 0 || len(b) < 4 {
			ranges(t, what, i, b, "", "")
		}
	}
	holds(t, what, i, b)
}

// TestMany: thousands of keys in the greatest space, in one transaction.
func TestMany(t *testing.T) {
	g := &texter{7}
	s := laid(t, 8184)
	i := makes(t, "many", s)
	behind := s.Left()
	b := book{}
	var keys []string
	for n := range 6000 {
		keys = append(keys, fmt.Sprintf("%d ", n)+g.text(g.below(95)))
	}
	for _, key := range keys {
		b[key] = g.text(g.below(150))
		puts(t, "many", i, key, b[key], api.OK)
	}
	holds(t, "many", i, b)
	for _, key := range g.mixed(keys)[:5900] {
		deletes(t, "many", i, key, api.OK)
		delete(b, key)
	}
	holds(t, "many", i, b)
	empties(t, "many", i, b, g.mixed(b.keys()))
	lefts(t, "many", s, behind)
}

// takes has others take all blocks but so many.
func takes(t *testing.T, s *space.Space, but int) []int {
	t.Helper()
	l, err := s.Alloc(s.Left() - but)
	wants(t, "Alloc for others", err, api.OK)
	return l
}

// TestMakeRoom: Make with few blocks left.
func TestMakeRoom(t *testing.T) {
	for left := range 12 {
		s := laid(t, 60)
		others := takes(t, s, left)
		i, err := index.Make(s)
		switch {
		case err == api.ErrSpace && left < 4 && i == nil:
			continue
		case err != api.OK || i == nil || left == 0:
			t.Fatalf("P11.1: Make with %d blocks left: %v, %d", left, i, err)
		}
		if took := left - s.Left(); took > 4 {
			t.Fatalf("P11.1: Make takes %d blocks", took)
		}
		wants(t, "Free of the others", s.Free(others), api.OK)
		puts(t, "made with few left", i, "k", "v", api.OK)
		holds(t, "made with few left", i, book{"k": "v"})
	}
}

// TestPutRoom: with 96 blocks left, and not one more, every Put is OK, whatever
// the index holds.
func TestPutRoom(t *testing.T) {
	for name, sort := range sorts() {
		for order, put := range orders() {
			t.Run(name+", "+order, func(t *testing.T) {
				t.Parallel()
				g := &texter{8}
				values := book{}
				for n := range 300 {
					key, value := sort(g, n)
					values[key] = value
				}
				s := laid(t, 1900)
				i := makes(t, "96 left", s)
				b := book{}
				for _, key := range put(g, values.keys()) {
					others := takes(t, s, 96)
					b[key] = values[key]
					puts(t, "96 left", i, key, b[key], api.OK)
					again := takes(t, s, min(96, s.Left()))
					b[key] = g.value()
					wants(t, "Free of the others", s.Free(others), api.OK)
					puts(t, "96 left again", i, key, b[key], api.OK)
					wants(t, "Free of the others", s.Free(again), api.OK)
				}
				holds(t, "96 left", i, b)
			})
		}
	}
}

// TestNoRoom: a Put that wants more blocks than there are is ErrSpace, and an
// Abort makes all as it was; one that wants none is OK.
func TestNoRoom(t *testing.T) {
	for left := range 4 {
		l, _ := blank(t, 100, 60)
		s, err := space.Make(txn.Begin(l), first)
		wants(t, "space.Make", err, api.OK)
		i := makes(t, "no room", s)
		puts(t, "no room", i, "k", "1", api.OK)
		puts(t, "no room", i, "l", times(2000, "l"), api.OK)
		takes(t, s, left)
		root := i.Root()
		wants(t, "Commit", s.Tx().Commit(), api.OK)
		b := book{"k": "1", "l": times(2000, "l")}
		for _, key := range []string{"j", "k"} {
			s = ats(t, "no room", l)
			puts(t, "no room", index.At(s, root), key, times(2048, "v"), api.ErrSpace)
			s.Tx().Abort()
			s = ats(t, "no room", l)
			holds(t, "no room", index.At(s, root), b)
			lefts(t, "no room", s, left)
		}
		i = index.At(s, root)
		puts(t, "no room", i, "k", "2", api.OK)
		puts(t, "no room", i, "l", times(1999, "m"), api.OK)
		holds(t, "no room", i, book{"k": "2", "l": times(1999, "m")})
	}
}

// TestDeleteFull: Delete wants no room: in a space that has none left, in each
// order, and what was deleted is room for others.
func TestDeleteFull(t *testing.T) {
	for name, sort := range sorts() {
		for order, out := range orders() {
			t.Run(name+", "+order, func(t *testing.T) {
				t.Parallel()
				g := &texter{9}
				s := laid(t, 1900)
				i := makes(t, "none left", s)
				behind := s.Left()
				b := book{}
				for n := range 250 {
					key, value := sort(g, n)
					b[key] = value
					puts(t, "none left", i, key, value, api.OK)
				}
				others := takes(t, s, 0)
				for n, key := range out(g, b.keys()) {
					deletes(t, "none left", i, key, api.OK)
					deletes(t, "none left", i, key, api.ErrNone)
					delete(b, key)
					others = append(others, takes(t, s, 0)...)
					if n%16 == 0 || len(b) < 4 {
						ranges(t, "none left", i, b, "", "")
					}
				}
				if len(others) != behind {
					t.Fatalf("P11.4: others could take %d blocks, want %d", len(others), behind)
				}
			})
		}
	}
}

// haveOthers: are these blocks in use, and hold these texts?
func haveOthers(s *space.Space, had map[int]string) bool {
	for n, text := range had {
		if got, err := s.Tx().Read(n); err != api.OK || got != text || !s.Used(n) {
			return false
		}
	}
	return true
}

// TestOthers: blocks that others have are neither written nor freed, nor those
// that the space keeps back.
func TestOthers(t *testing.T) {
	g := &texter{10}
	s := laid(t, 700)
	x := s.Tx()
	had := map[int]string{0: full('A'), 1: full('B')}
	for n, text := range had {
		wants(t, "Write", x.Write(n, text), api.OK)
	}
	i, b := makes(t, "others", s), book{}
	for n := range 900 {
		key := fmt.Sprint(g.below(60), times(g.below(90), "k"))
		if n > 600 || g.below(3) == 0 {
			_, there := b[key]
			want := api.OK
			if !there {
				want = api.ErrNone
			}
			deletes(t, "others", i, key, want)
			delete(b, key)
		} else if s.Left() >= 96 {
			b[key] = g.value()
			puts(t, "others", i, key, b[key], api.OK)
		}
		if n%5 == 0 && s.Left() > 96 {
			l, err := s.Alloc(1)
			wants(t, "Alloc", err, api.OK)
			had[l[0]] = g.text(512)
			wants(t, "Write", x.Write(l[0], had[l[0]]), api.OK)
		}
	}
	if !haveOthers(s, had) {
		t.Fatalf("P11.1: a block of others is changed or freed")
	}
	holds(t, "others", i, b)
}

// TestRoot: At of the root that an index has behind each Put and Delete finds
// it, in its transaction and in a later one.
func TestRoot(t *testing.T) {
	g := &texter{11}
	l, _ := blank(t, 300, 900)
	s, err := space.Make(txn.Begin(l), first)
	wants(t, "space.Make", err, api.OK)
	i, b := makes(t, "root", s), book{}
	behind := s.Left()
	for n := range 260 {
		what := fmt.Sprintf("root, step %d", n)
		key := fmt.Sprint(g.below(50), times(g.below(3)*40, "k"))
		_, there := b[key]
		if there && g.below(2) == 0 || n > 200 && there {
			deletes(t, what, i, key, api.OK)
			delete(b, key)
		} else {
			b[key] = g.value()
			puts(t, what, i, key, b[key], api.OK)
		}
		root := i.Root()
		if j := index.At(s, root); j == nil || j.Root() != root {
			t.Fatalf("%s: P11.1: At(%d): %v", what, root, j)
		} else {
			ranges(t, what, j, b, "", "")
		}
		if n%4 == 0 {
			wants(t, what+": Commit", s.Tx().Commit(), api.OK)
			if i.Root() != root {
				t.Fatalf("%s: P11.1: Root behind a Commit: %d, was %d", what, i.Root(), root)
			}
			s = ats(t, what, l)
			i = index.At(s, root)
			holds(t, what, i, b)
		}
	}
	empties(t, "root", i, b, g.mixed(b.keys()))
	lefts(t, "root", s, behind)
}

// TestAbort: behind an Abort an index holds what it held at the last Commit, and
// the space has as much room.
func TestAbort(t *testing.T) {
	g := &texter{12}
	l, _ := blank(t, 300, 900)
	s, err := space.Make(txn.Begin(l), first)
	wants(t, "space.Make", err, api.OK)
	i, b := makes(t, "abort", s), book{}
	for n := range 80 {
		key := fmt.Sprintf("%060d", n)
		b[key] = g.value()
		puts(t, "abort", i, key, b[key], api.OK)
	}
	root, left := i.Root(), s.Left()
	wants(t, "Commit", s.Tx().Commit(), api.OK)
	changes := map[string]func(i *index.Index){
		"all deleted": func(i *index.Index) {
			for key := range b {
				deletes(t, "abort", i, key, api.OK)
			}
		},
		"many put": func(i *index.Index) {
			for n := range 100 {
				puts(t, "abort", i, fmt.Sprintf("%070d", n), g.value(), api.OK)
			}
		},
		"all changed": func(i *index.Index) {
			for _, key := range b.keys() {
				puts(t, "abort", i, key, g.value(), api.OK)
			}
		},
		"nothing": func(i *index.Index) {},
	}
	for what, change := range changes {
		s := ats(t, what, l)
		change(index.At(s, root))
		s.Tx().Abort()
		s = ats(t, what, l)
		lefts(t, what, s, left)
		holds(t, what, index.At(s, root), b)
	}
}

// upTo are the numbers below count.
func upTo(count int) []int {
	return chosen(count, func(int) bool { return true })
}

func chosen(count int, is func(i int) bool) []int {
	var list []int
	for i := range count {
		if is(i) {
			list = append(list, i)
		}
	}
	return list
}

// keeps are some choices of the pending writes that a crash keeps.
func keeps(g *texter, pending int) [][]int {
	lists := [][]int{nil, upTo(pending), upTo(pending / 2), chosen(pending, func(i int) bool { return i >= pending/2 })}
	for range 4 {
		lists = append(lists, chosen(pending, func(int) bool { return g.below(2) == 0 }))
	}
	return lists
}

// TestPower: wherever the power goes in a Commit, and whatever is kept, the index
// is the one ahead of the transaction, or the one that it made, whole.
func TestPower(t *testing.T) {
	const size = 120
	g := &texter{13}
	l, start := blank(t, size, 300)
	s, err := space.Make(txn.Begin(l), first)
	wants(t, "space.Make", err, api.OK)
	i, old := makes(t, "power", s), book{}
	for n := range 30 {
		key := fmt.Sprintf("%050d", n)
		old[key] = g.text(n * 20)
		puts(t, "power", i, key, old[key], api.OK)
	}
	oldRoot, oldLeft := i.Root(), s.Left()
	wants(t, "Commit", s.Tx().Commit(), api.OK)
	wants(t, "Flush", start.Flush(), api.OK)
	none, all := 0, 0
	for n := 1; ; n++ {
		d := start.Copy()
		s := ats(t, "power", opens(t, "power", d, size))
		i, now := index.At(s, oldRoot), maps.Clone(old)
		for _, key := range old.keys()[5:18] {
			deletes(t, "power", i, key, api.OK)
			delete(now, key)
		}
		for k := range 12 {
			key := fmt.Sprintf("%050d new", k*3)
			now[key] = times(k*90, "n")
			puts(t, "power", i, key, now[key], api.OK)
		}
		root, left := i.Root(), s.Left()
		d.Fall(n)
		err := s.Tx().Commit()
		if err == api.OK {
			break
		}
		what := fmt.Sprintf("P11.3: Fall(%d)", n)
		wants(t, what, err, api.ErrOff)
		for _, kept := range keeps(g, d.Pending()) {
			c := d.Copy()
			c.Crash(kept)
			c.On()
			s := ats(t, what, opens(t, what, c, size))
			if isBook(index.At(s, oldRoot), old) {
				none++
				lefts(t, what, s, oldLeft)
				holds(t, what, index.At(s, oldRoot), old)
				continue
			}
			all++
			lefts(t, what, s, left)
			holds(t, what, index.At(s, root), now)
		}
	}
	if none == 0 || all == 0 {
		t.Errorf("P11.3: as it was %d times, as it is %d times", none, all)
	}
}

// TestTwo: three indexes in one space, by turns, each as if it were alone; one
// that is emptied leaves the others as they are.
func TestTwo(t *testing.T) {
	g := &texter{14}
	s := laid(t, 2400)
	before := s.Left()
	books := []book{{}, {}, {}}
	var all []*index.Index
	for range books {
		all = append(all, makes(t, "P11.5", s))
	}
	behind := s.Left()
	for n := range 900 {
		k := g.below(len(all))
		i, b := all[k], books[k]
		key := fmt.Sprint(g.below(80), times(g.below(80), "k"))
		if _, there := b[key]; there && g.below(2) == 0 {
			deletes(t, "P11.5", i, key, api.OK)
			delete(b, key)
		} else {
			b[key] = g.value()
			puts(t, "P11.5", i, key, b[key], api.OK)
		}
		if n%60 == 0 {
			for k, i := range all {
				ranges(t, "P11.5", i, books[k], "", "")
			}
		}
	}
	for k, i := range all {
		empties(t, "P11.5", i, books[k], g.mixed(books[k].keys()))
		for m, other := range all {
			holds(t, "P11.5", other, books[m])
		}
	}
	lefts(t, "P11.5", s, behind)
	roots := map[int]int{}
	for _, i := range all {
		roots[i.Root()]++
	}
	if len(roots) != len(all) {
		t.Fatalf("P11.5: roots %v", roots)
	}
	if before-behind > 4*len(all) {
		t.Fatalf("P11.1: %d indexes have %d blocks", len(all), before-behind)
	}
}

// isOver: does every call answer as on an index whose transaction is over?
func isOver(t *testing.T, what string, s *space.Space, i *index.Index, root int) {
	t.Helper()
	if j, err := index.Make(s); j != nil || err != api.ErrState {
		t.Fatalf("%s: P11.1: Make: %v, %d", what, j, err)
	}
	if j := index.At(s, root); j == nil || j.Root() != root || i.Root() != root {
		t.Fatalf("%s: P11.1: At and Root: %v", what, j)
	}
	for _, i := range []*index.Index{i, index.At(s, root), index.At(s, -1)} {
		for _, key := range []string{"", "k", "none", times(100, "k"), times(101, "k")} {
			puts(t, what, i, key, "", api.ErrState)
			puts(t, what, i, key, times(2048, "v"), api.ErrState)
			puts(t, what, i, key, times(2049, "v"), api.ErrState)
			gets(t, what, i, key, "", api.ErrState)
			deletes(t, what, i, key, api.ErrState)
			for _, to := range []string{"", "a", "z"} {
				if l, err := told(i, key, to); l != nil || err != api.ErrState {
					t.Fatalf("%s: P11.1: Range(%q, %q): %v, %d", what, key, to, l, err)
				}
			}
		}
	}
}

// TestOver: every call behind the end of its transaction, whichever that was.
func TestOver(t *testing.T) {
	ends := map[string]func(x *txn.Tx, d *disk.Disk){
		"Commit": func(x *txn.Tx, d *disk.Disk) { wants(t, "Commit", x.Commit(), api.OK) },
		"Abort":  func(x *txn.Tx, d *disk.Disk) { x.Abort() },
		"a Commit that is too great": func(x *txn.Tx, d *disk.Disk) {
			for n := range 95 {
				wants(t, "Write", x.Write(n, full('w')), api.OK)
			}
			wants(t, "Commit", x.Commit(), api.ErrLog)
		},
		"a Commit without power": func(x *txn.Tx, d *disk.Disk) {
			d.Crash(nil)
			wants(t, "Commit", x.Commit(), api.ErrOff)
		},
	}
	for what, end := range ends {
		for _, count := range []int{0, 1, 40} {
			l, d := blank(t, 90, 200)
			s, err := space.Make(txn.Begin(l), first)
			wants(t, "space.Make", err, api.OK)
			i := makes(t, what, s)
			for n := range count {
				puts(t, what, i, "k"+times(n, "."), times(n*11, "v"), api.OK)
			}
			root := i.Root()
			end(s.Tx(), d)
			isOver(t, what, s, i, root)
			isOver(t, what, s, i, root)
		}
	}
}

// TestOff: without power what is read is ErrOff; what needs no reading is told
// as it is.
func TestOff(t *testing.T) {
	l, d := blank(t, 90, 200)
	s, err := space.Make(txn.Begin(l), first)
	wants(t, "space.Make", err, api.OK)
	i := makes(t, "off", s)
	for n := range 40 {
		puts(t, "off", i, "k"+times(n, "."), times(n*11, "v"), api.OK)
	}
	root := i.Root()
	wants(t, "Commit", s.Tx().Commit(), api.OK)
	s = ats(t, "off", l)
	i = index.At(s, root)
	d.Crash(nil)
	if j, err := index.Make(s); j != nil || err != api.ErrOff {
		t.Fatalf("P11.1: Make without power: %v, %d", j, err)
	}
	puts(t, "off", i, "k", "v", api.ErrOff)
	gets(t, "off", i, "k", "", api.ErrOff)
	deletes(t, "off", i, "k", api.ErrOff)
	if l, err := told(i, "", ""); l != nil || err != api.ErrOff {
		t.Fatalf("P11.1: Range without power: %v, %d", l, err)
	}
	puts(t, "off", i, "", "v", api.ErrArg)
	puts(t, "off", i, "k", times(2049, "v"), api.ErrArg)
	gets(t, "off", i, "", "", api.ErrNone)
	deletes(t, "off", i, times(101, "k"), api.ErrNone)
	if i.Root() != root || index.At(s, root).Root() != root {
		t.Fatalf("P11.1: Root without power")
	}
}

// TestOffInRange: the power goes while Range tells: it tells no more, and its
// error; so does the end of the transaction.
func TestOffInRange(t *testing.T) {
	for _, want := range []api.Errno{api.ErrOff, api.ErrState} {
		l, d := blank(t, 90, 200)
		s, err := space.Make(txn.Begin(l), first)
		wants(t, "space.Make", err, api.OK)
		i := makes(t, "off", s)
		for n := range 40 {
			puts(t, "off", i, fmt.Sprintf("%02d", n), times(1000, "v"), api.OK)
			if n%20 == 19 {
				root := i.Root()
				wants(t, "Commit", s.Tx().Commit(), api.OK)
				s = ats(t, "off", l)
				i = index.At(s, root)
			}
		}
		count := 0
		err = i.Range("", "", func(string, string) bool {
			if count++; count == 7 && want == api.ErrOff {
				d.Crash(nil)
			} else if count == 7 {
				s.Tx().Abort()
			}
			return true
		})
		if err != want || count != 7 {
			t.Fatalf("P11.1: Range that is cut off: %d behind %d, want %d", err, count, want)
		}
	}
}

// asks calls everything, whatever it answers.
func asks(s *space.Space, root int) {
	i := index.At(s, root)
	i.Root()
	for _, key := range []string{"k", "00", "05 a", times(100, "\xff"), "\x00"} {
		i.Get(key)
		i.Put(key, "v")
		i.Delete(key)
		i.Put(key, times(2048, "v"))
		i.Delete(key)
	}
	told(i, "", "")
	told(i, "05", "06")
}

// TestNoRoot: of a number that is no root, and of blocks that others have
// written, nothing is said; but every call ends, and none panics.
func TestNoRoot(t *testing.T) {
	g := &texter{15}
	l, _ := blank(t, 600, 500)
	s, err := space.Make(txn.Begin(l), first)
	wants(t, "space.Make", err, api.OK)
	i := makes(t, "no root", s)
	for n := range 120 {
		puts(t, "no root", i, fmt.Sprintf("%02d %d", n%50, n)+times(g.below(80), "k"), g.value(), api.OK)
	}
	root := i.Root()
	wants(t, "Commit", s.Tx().Commit(), api.OK)
	for _, n := range []int{math.MinInt, -65536, -1, 500, 501, 65536, 65536 + root, math.MaxInt} {
		s := ats(t, "no root", l)
		asks(s, n)
		s.Tx().Abort()
	}
	for n := range 500 {
		s := ats(t, "no root", l)
		asks(s, n)
		s.Tx().Abort()
		for range 6 {
			s := ats(t, "no root", l)
			text, err := s.Tx().Read(n)
			wants(t, "Read", err, api.OK)
			b := []byte(text)
			for range 1 + g.below(3) {
				b[g.below(1+g.below(len(b)))] = byte(g.number() >> g.below(9))
			}
			wants(t, "Write", s.Tx().Write(n, string(b)), api.OK)
			asks(s, root)
			s.Tx().Abort()
		}
	}
	for range 300 {
		s := ats(t, "no root", l)
		for range 30 {
			from, err := s.Tx().Read(g.below(500))
			wants(t, "Read", err, api.OK)
			wants(t, "Write", s.Tx().Write(first+1+g.below(500-first-1), from), api.OK)
		}
		asks(s, root)
		s.Tx().Abort()
	}
}

// world is an index, what it is to hold, and what it held at the last Commit.
type world struct {
	g      *texter
	size   int
	d      *disk.Disk
	l      *log.Log
	s      *space.Space
	i      *index.Index
	b      book
	others map[int]string
	said   strings.Builder

	safe     book
	safeRoot int
	safeHad  map[int]string
	safeLeft int
	behind   int
}

// begin goes on in another transaction, from what is safe.
func (w *world) begin(t *testing.T, what string) {
	t.Helper()
	w.s = ats(t, what, w.l)
	w.i = index.At(w.s, w.safeRoot)
	w.b, w.others = maps.Clone(w.safe), maps.Clone(w.safeHad)
}

func (w *world) key() string {
	key := string([]byte{byte(w.g.below(3)), byte(w.g.below(12) * 23)}[w.g.below(2):])
	return key + times([]int{0, 0, 1, 30, 98}[w.g.below(5)], string([]byte{byte(w.g.below(2) * 255)}))
}

func (w *world) put(t *testing.T, what string) {
	t.Helper()
	key, value := w.key(), w.g.value()
	left := w.s.Left()
	err := w.i.Put(key, value)
	fmt.Fprintln(&w.said, "put", err, w.i.Root())
	if err == api.ErrSpace && left < 96 {
		w.s.Tx().Abort()
		w.begin(t, what)
		return
	}
	wants(t, what+": P11.1: Put", err, api.OK)
	w.b[key] = value
}

func (w *world) delete(t *testing.T, what string) {
	t.Helper()
	key := w.key()
	if keys := w.b.keys(); len(keys) > 0 && w.g.below(4) > 0 {
		key = keys[w.g.below(len(keys))]
	}
	want := api.ErrNone
	if _, there := w.b[key]; there {
		want = api.OK
	}
	err := w.i.Delete(key)
	fmt.Fprintln(&w.said, "delete", err, w.i.Root())
	wants(t, what+": P11.1: Delete", err, want)
	delete(w.b, key)
}

// commit ends the transaction well, if its log is great enough, or by an Abort,
// or by a fall of the power.
func (w *world) commit(t *testing.T, what string) {
	t.Helper()
	root, left := w.i.Root(), w.s.Left()
	switch w.g.below(6) {
	case 0:
		w.s.Tx().Abort()
		w.begin(t, what)
		return
	case 1:
		w.lose(t, what)
		return
	}
	err := w.s.Tx().Commit()
	fmt.Fprintln(&w.said, "commit", err)
	if err == api.OK {
		w.safe, w.safeRoot, w.safeHad, w.safeLeft = w.b, root, w.others, left
	} else {
		wants(t, what+": Commit", err, api.ErrLog)
	}
	w.begin(t, what)
}

// lose takes the power in a Commit, or behind it.
func (w *world) lose(t *testing.T, what string) {
	t.Helper()
	root, left := w.i.Root(), w.s.Left()
	w.d.Fall(1 + w.g.below(3*w.s.Tx().Dirty()+12))
	err := w.s.Tx().Commit()
	fmt.Fprintln(&w.said, "commit", err)
	w.d.Crash(chosen(w.d.Pending(), func(int) bool { return w.g.below(2) == 0 }))
	w.d.On()
	w.l = opens(t, what, w.d, w.size)
	isNew := err == api.OK
	if err == api.ErrOff {
		s := ats(t, what, w.l)
		isNew = !isBook(index.At(s, w.safeRoot), w.safe) || !haveOthers(s, w.safeHad) || s.Left() != w.safeLeft
	}
	if isNew {
		w.safe, w.safeRoot, w.safeHad, w.safeLeft = w.b, root, w.others, left
	}
	w.begin(t, what)
	holds(t, what+": P11.3", w.i, w.safe)
}

// other has another take a block, or give one back.
func (w *world) other(t *testing.T, what string) {
	t.Helper()
	for n := range w.others {
		if len(w.others) > 20 {
			n = slices.Min(slices.Collect(maps.Keys(w.others)))
			wants(t, what+": Free", w.s.Free([]int{n}), api.OK)
			delete(w.others, n)
		}
		break
	}
	if l, err := w.s.Alloc(1); err == api.OK {
		w.others[l[0]] = w.g.text(512)
		wants(t, what+": Write", w.s.Tx().Write(l[0], w.others[l[0]]), api.OK)
	}
}

func (w *world) check(t *testing.T, what string) {
	t.Helper()
	ranges(t, what, w.i, w.b, "", "")
	from, to := w.key(), w.key()
	ranges(t, what, w.i, w.b, from, to)
	ranges(t, what, w.i, w.b, from, "")
	if !haveOthers(w.s, w.others) {
		t.Fatalf("%s: P11.1: a block of others is changed or freed", what)
	}
	if len(w.b) == 0 {
		lefts(t, what, w.s, w.behind-len(w.others))
	}
	fmt.Fprintln(&w.said, "left", w.s.Left())
}

// walk does so many steps, and is what was told in them.
func walk(t *testing.T, seed uint64, blocks, steps int) string {
	w := &world{g: &texter{seed}, size: 60}
	w.l, w.d = blank(t, w.size, blocks)
	var err api.Errno
	w.s, err = space.Make(txn.Begin(w.l), first)
	wants(t, "space.Make", err, api.OK)
	w.i = makes(t, "walk", w.s)
	w.behind = w.s.Left()
	w.safe, w.safeRoot, w.safeHad, w.safeLeft = book{}, w.i.Root(), map[int]string{}, w.behind
	wants(t, "Commit", w.s.Tx().Commit(), api.OK)
	w.begin(t, "walk")
	for n := range steps {
		what := fmt.Sprintf("walk %d over %d blocks, step %d", seed, blocks, n)
		// By turns it grows and shrinks.
		puts := 4 + 10*(n/150%2)
		switch k := w.g.below(40); {
		case k < puts+4:
			w.put(t, what)
		case k < 32:
			w.delete(t, what)
		case k < 35:
			w.other(t, what)
		case k < 37:
			w.commit(t, what)
		default:
			w.check(t, what)
		}
	}
	holds(t, "walk", w.i, w.b)
	return w.said.String()
}

// TestWalks: any calls in any order, held against a book.
func TestWalks(t *testing.T) {
	for seed := range uint64(60) {
		for _, blocks := range []int{40, 150, 500} {
			walk(t, seed, blocks, 500)
		}
	}
}

// TestTwice: the same calls give the same answers each time.
func TestTwice(t *testing.T) {
	for seed := range uint64(6) {
		if walk(t, seed, 150, 600) != walk(t, seed, 150, 600) {
			t.Fatalf("R4: walk %d", seed)
		}
	}
}

// TestBeside: indexes of other spaces have nothing to do with one another.
func TestBeside(t *testing.T) {
	want := walk(t, 99, 150, 400)
	for n := range 8 {
		t.Run(fmt.Sprint(n), func(t *testing.T) {
			t.Parallel()
			if walk(t, 99, 150, 400) != want {
				t.Fatalf("R4: what runs beside shows")
			}
		})
	}
}
