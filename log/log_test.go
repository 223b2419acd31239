package log_test

import (
	"fmt"
	"maps"
	"math"
	"slices"
	"strconv"
	"strings"
	"sync"
	"testing"
	"unsafe"

	"coffer/api"
	"coffer/disk"
	"coffer/log"
	"coffer/sum"
)

// texter tells texts and numbers that look like chance and are the same each time.
type texter struct{ x uint64 }

func (t *texter) number() uint64 {
	t.x += 0x9e3779b97f4a7c15
	z := t.x
	z = (z ^ z>>30) * 0xbf58476d1ce4e5b9
	z = (z ^ z>>27) * 0x94d049bb133111eb
	return z ^ z>>31
}

func (t *texter) below(n int) int { return int(t.number() % uint64(n)) }

// text has n bytes of all kinds.
func (t *texter) text(n int) string {
	b := make([]byte, n)
	for i := range b {
		b[i] = byte(t.number())
	}
	return string(b)
}

// some is count writes of unlike blocks, in no order.
func (t *texter) some(blocks, count int) []api.Write {
	numbers := make([]int, blocks)
	for i := range numbers {
		numbers[i] = i
	}
	var w []api.Write
	for i := range count {
		k := i + t.below(blocks-i)
		numbers[i], numbers[k] = numbers[k], numbers[i]
		w = append(w, api.Write{N: numbers[i], Text: t.text(512)})
	}
	return w
}

// full is a block of one letter.
func full(c byte) string { return strings.Repeat(string([]byte{c}), 512) }

// writes are letters, each for the block behind it: "x0" is x in block 0.
func writes(list ...string) []api.Write {
	var w []api.Write
	for _, s := range list {
		n, _ := strconv.Atoi(s[1:])
		w = append(w, api.Write{N: n, Text: full(s[0])})
	}
	return w
}

// row is count writes of a letter, from block 0 on.
func row(c byte, count int) []api.Write {
	var w []api.Write
	for n := range count {
		w = append(w, api.Write{N: n, Text: full(c)})
	}
	return w
}

func made(t *testing.T, sectors int) *disk.Disk {
	t.Helper()
	d, err := disk.New(sectors)
	if err != api.OK {
		t.Fatalf("New(%d): %d", sectors, err)
	}
	return d
}

func opens(t *testing.T, what string, d *disk.Disk, size int) *log.Log {
	t.Helper()
	l, err := log.Open(d, size)
	if l == nil || err != api.OK {
		t.Fatalf("%s: Open(%d) of %d sectors: %d", what, size, d.Sectors(), err)
	}
	if l.Blocks() != d.Sectors()-size {
		t.Fatalf("%s: Blocks: %d, want %d", what, l.Blocks(), d.Sectors()-size)
	}
	if d.Pending() != 0 {
		t.Fatalf("%s: %d pending behind an Open", what, d.Pending())
	}
	return l
}

// refuses: does Open answer that error, and change nothing?
func refuses(t *testing.T, what string, d *disk.Disk, size int, want api.Errno) {
	t.Helper()
	was := state(d)
	if l, err := log.Open(d, size); l != nil || err != want {
		t.Fatalf("%s: Open(%d) of %d sectors: %v, %d, want nil and %d", what, size, d.Sectors(), l != nil, err, want)
	}
	if state(d) != was {
		t.Fatalf("%s: a refused Open(%d) changed the disk", what, size)
	}
}

func wants(t *testing.T, what string, got, want api.Errno) {
	t.Helper()
	if got != want {
		t.Fatalf("%s: %d, want %d", what, got, want)
	}
}

// commits: is Commit OK, with nothing pending behind it?
func commits(t *testing.T, what string, d *disk.Disk, l *log.Log, w []api.Write) {
	t.Helper()
	wants(t, what+": Commit", l.Commit(w), api.OK)
	if d.Pending() != 0 {
		t.Fatalf("%s: %d pending behind a Commit", what, d.Pending())
	}
}

// state is all that can be told of a disk that is on: what is seen, what is safe
// and how many writes are pending.
func state(d *disk.Disk) string {
	c := d.Copy()
	c.Crash(nil)
	c.On()
	var b strings.Builder
	for _, from := range []*disk.Disk{d, c} {
		for n := range from.Sectors() {
			text, err := from.Read(n)
			b.WriteString(strconv.Itoa(int(err)) + text)
		}
	}
	return b.String() + strconv.Itoa(d.Pending()) + strconv.FormatBool(d.Off())
}

// blocks is what the log's blocks hold.
func blocks(t *testing.T, what string, l *log.Log) []string {
	t.Helper()
	var all []string
	for n := range l.Blocks() {
		text, err := l.Read(n)
		if err != api.OK || len(text) != 512 {
			t.Fatalf("%s: Read(%d): %d bytes, %d", what, n, len(text), err)
		}
		all = append(all, text)
	}
	return all
}

// laid is blocks with writes laid in them.
func laid(all []string, w []api.Write) []string {
	all = slices.Clone(all)
	for _, one := range w {
		all[one.N] = one.Text
	}
	return all
}

func empty(count int) []string { return slices.Repeat([]string{full(0)}, count) }

// holds: are the blocks these?
func holds(t *testing.T, what string, l *log.Log, want []string) {
	t.Helper()
	if got := blocks(t, what, l); !slices.Equal(got, want) {
		for n := range got {
			if n >= len(want) || got[n] != want[n] {
				t.Fatalf("%s: block %d is %.4q..", what, n, got[n])
			}
		}
		t.Fatalf("%s: %d blocks, want %d", what, len(got), len(want))
	}
}

// keeps is which of the pending writes a crash may keep: every choice of a few,
// of more none, all, some, each half of them, and the first and the last alone
// and left out, and of very many just none, all and some.
func keeps(pending int) [][]int {
	if pending <= 4 {
		lists := [][]int{}
		for mask := range 1 << pending {
			lists = append(lists, chosen(pending, func(i int) bool { return mask>>i&1 == 1 }))
		}
		return lists
	}
	g := &texter{uint64(pending)}
	lists := [][]int{
		nil,
		chosen(pending, func(i int) bool { return true }),
		chosen(pending, func(i int) bool { return g.below(2) == 0 }),
		chosen(pending, func(i int) bool { return i < pending/2 }),
		chosen(pending, func(i int) bool { return i >= pending/2 }),
		chosen(pending, func(i int) bool { return i == 0 }),
		chosen(pending, func(i int) bool { return i > 0 }),
		chosen(pending, func(i int) bool { return i == pending-1 }),
		chosen(pending, func(i int) bool { return i < pending-1 }),
	}
	if pending > 50 {
		return lists[:3]
	}
	return lists
}

func chosen(count int, is func(i int) bool) []int {
	var list []int
	for i := range count {
		if is(i) {
			list = append(list, i)
		}
	}
	return list
}

// falls lets the power go at each Write and Flush that do asks of the disk, and
// hands on what each crash leaves, with the power back. The disk itself stays.
func falls(t *testing.T, what string, d *disk.Disk, do func(d *disk.Disk) api.Errno, then func(what string, d *disk.Disk)) {
	t.Helper()
	for n := 1; ; n++ {
		c := d.Copy()
		c.Fall(n)
		err := do(c)
		if err == api.OK {
			return
		}
		if err != api.ErrOff || !c.Off() {
			t.Fatalf("%s: Fall(%d): %d, want %d", what, n, err, api.ErrOff)
		}
		for _, kept := range keeps(c.Pending()) {
			e := c.Copy()
			e.Crash(kept)
			e.On()
			then(fmt.Sprintf("%s, Fall(%d), kept %v", what, n, kept), e)
		}
	}
}

// decided: behind Open, are the blocks one of the two lists, the same behind
// another Open and crash, and does the next commit go?
func decided(t *testing.T, what string, d *disk.Disk, size int, old, new []string) {
	t.Helper()
	d = d.Copy()
	l := opens(t, what, d, size)
	got := blocks(t, what, l)
	if !slices.Equal(got, old) && !slices.Equal(got, new) {
		t.Fatalf("P7.2: %s: neither all nor none", what)
	}
	holds(t, "P7.3: again: "+what, opens(t, what, d, size), got)
	d.Crash(nil)
	d.On()
	l = opens(t, what, d, size)
	holds(t, "P7.3: again, behind a crash: "+what, l, got)
	next := row('n', min((size-2)/2, l.Blocks()))
	commits(t, "P7.4: "+what, d, l, next)
	d.Crash(nil)
	d.On()
	holds(t, "P7.2: the next: "+what, opens(t, what, d, size), laid(got, next))
}

// power lets the power go at each Write and Flush of a commit, of the Open that
// follows, and so on so many times in all.
func power(t *testing.T, what string, d *disk.Disk, size, times int, old []string, w []api.Write) {
	t.Helper()
	open := func(d *disk.Disk) api.Errno {
		_, err := log.Open(d, size)
		return err
	}
	commit := func(d *disk.Disk) api.Errno {
		l, err := log.Open(d, size)
		if err != api.OK {
			return err
		}
		return l.Commit(w)
	}
	var deeper func(left int) func(what string, d *disk.Disk)
	deeper = func(left int) func(what string, d *disk.Disk) {
		return func(what string, d *disk.Disk) {
			t.Helper()
			decided(t, what, d, size, old, laid(old, w))
			if left > 0 {
				falls(t, what, d, open, deeper(left-1))
			}
		}
	}
	falls(t, what, d, commit, deeper(times-1))
}

func TestExamples(t *testing.T) {
	d := made(t, 16)
	l := opens(t, "P7.1", d, 8)
	if l.Blocks() != 8 {
		t.Errorf("P7.1: Blocks: %d", l.Blocks())
	}
	holds(t, "P7.1: new", l, empty(8))
	commits(t, "P7.1", d, l, writes("x0", "y7"))
	want := laid(empty(8), writes("x0", "y7"))
	holds(t, "P7.1", l, want)
	for _, w := range [][]api.Write{writes("x8"), writes("x0", "y0"), {{N: 0, Text: "x"}}, row('x', 9)} {
		wants(t, "P7.1: Commit of what is wrong", l.Commit(w), api.ErrArg)
	}
	wants(t, "P7.1: Commit of none", l.Commit(nil), api.OK)
	holds(t, "P7.1: refused", l, want)
	power(t, "the second example", d, 8, 1, want, writes("y0", "y1"))
	for _, size := range []int{9, 16, 3} {
		refuses(t, "P7.3: the third example", d, size, api.ErrArg)
	}
	wants(t, "Write", d.Write(0, full('x')), api.OK)
	refuses(t, "P7.1: a first sector of x", d, 8, api.ErrTorn)
}

func TestSizes(t *testing.T) {
	for _, sectors := range []int{1, 2, 3, 4, 5, 6, 16, 512, 8192} {
		for _, size := range []int{math.MinInt, -1 << 32, -8, -1, 0, 1, 2, 3, 4, 5, 7, sectors - 2, sectors - 1, sectors, sectors + 1, 8191, 8192, 1 << 16, 1<<16 + 4, 1 << 32, 1<<32 + 4, math.MaxInt} {
			d := made(t, sectors)
			if size < 4 || size >= sectors {
				refuses(t, "P7.1: a wrong size", d, size, api.ErrArg)
				continue
			}
			l := opens(t, "P7.1", d, size)
			w := []api.Write{{N: l.Blocks() - 1, Text: full('x')}}
			commits(t, "P7.1", d, l, w)
			d.Crash(nil)
			d.On()
			l = opens(t, "P7.3", d, size)
			holds(t, "P7.3", l, laid(empty(sectors-size), w))
		}
	}
}

// TestLaid: Open lays the first sector, and it is safe.
func TestLaid(t *testing.T) {
	d := made(t, 12)
	wants(t, "Write", d.Write(0, full(0)), api.OK)
	l := opens(t, "P7.1: zeros that were written", d, 5)
	holds(t, "P7.1", l, empty(7))
	d.Crash(nil)
	d.On()
	if first, _ := d.Read(0); first == full(0) {
		t.Error("P7.1: the first sector is not laid")
	}
	refuses(t, "P7.3", d, 6, api.ErrArg)
	was := state(d)
	opens(t, "P7.3", d, 5)
	if state(d) != was {
		t.Error("P7.3: opened again, the disk changed")
	}
	for at := range 512 { // all zeros but one
		d := made(t, 12)
		wants(t, "Write", d.Write(0, full(0)[:at]+"\x01"+full(0)[at+1:]), api.OK)
		refuses(t, "P7.1: not all zeros", d, 5, api.ErrTorn)
	}
}

// TestLaidPower: the power goes while the first sector is laid, many times over.
func TestLaidPower(t *testing.T) {
	open := func(d *disk.Disk) api.Errno {
		_, err := log.Open(d, 5)
		return err
	}
	count := 0
	var deeper func(left int) func(what string, d *disk.Disk)
	deeper = func(left int) func(what string, d *disk.Disk) {
		return func(what string, d *disk.Disk) {
			count++
			decided(t, what, d, 5, empty(7), empty(7))
			if left > 0 {
				falls(t, what, d, open, deeper(left-1))
			}
		}
	}
	falls(t, "laying", made(t, 12), open, deeper(3))
	if count == 0 {
		t.Error("P7.1: a new log asks the disk for nothing")
	}
}

// TestSaysNone: a first sector that was changed says no size.
func TestSaysNone(t *testing.T) {
	d := made(t, 12)
	l := opens(t, "P7.1", d, 5)
	commits(t, "P7.1", d, l, writes("x0"))
	first, _ := d.Read(0)
	try := func(text string) {
		t.Helper()
		c := d.Copy()
		wants(t, "Write", c.Write(0, text), api.OK)
		refuses(t, "P7.1: says none", c, 5, api.ErrTorn)
		refuses(t, "P7.1: says none, and a wrong size", c, 3, api.ErrArg)
		refuses(t, "P7.1: says none, and a wrong size", c, 12, api.ErrArg)
		wants(t, "Flush", c.Flush(), api.OK)
		refuses(t, "P7.1: says none, and safe", c, 5, api.ErrTorn)
		refuses(t, "P7.1: says none, another size", c, 6, api.ErrTorn)
	}
	for at := range 512 {
		for _, bits := range []byte{1, 3, 128, 255} {
			b := []byte(first)
			b[at] ^= bits
			try(string(b))
		}
	}
	g := &texter{7}
	try(full('x'))
	try(full(255))
	for range 50 {
		try(g.text(512))
	}
	try(first[1:] + first[:1])
	holds(t, "P7.3", opens(t, "P7.3", d, 5), laid(empty(7), writes("x0")))
}

// TestOtherSize: opened with another size nothing is changed, also where a
// commit was under way, which the right size then decides.
func TestOtherSize(t *testing.T) {
	d := made(t, 20)
	l := opens(t, "P7.1", d, 8)
	commits(t, "P7.1", d, l, writes("a0", "b1", "c11"))
	old := laid(empty(12), writes("a0", "b1", "c11"))
	w := writes("x0", "y1", "z2")
	commit := func(d *disk.Disk) api.Errno { return opens(t, "P7.1", d, 8).Commit(w) }
	check := func(what string, d *disk.Disk) {
		for _, size := range []int{4, 5, 6, 7, 9, 10, 16, 19} {
			refuses(t, "P7.3: another size: "+what, d, size, api.ErrArg)
		}
		for _, size := range []int{math.MinInt, -8, 3, 20, 21, math.MaxInt} {
			refuses(t, "P7.3: no size: "+what, d, size, api.ErrArg)
		}
		decided(t, what, d, 8, old, laid(old, w))
	}
	check("at rest", d)
	falls(t, "another size", d, commit, check)
}

func TestBlocks(t *testing.T) {
	for _, c := range [][2]int{{5, 4}, {16, 8}, {600, 300}, {8192, 2048}, {8192, 4}, {8192, 8191}} {
		d := made(t, c[0])
		l := opens(t, "P7.1", d, c[1])
		last := c[0] - c[1] - 1
		for i, n := range slices.Compact([]int{0, last}) {
			text := full("xy"[i])
			commits(t, "P7.1", d, l, []api.Write{{N: n, Text: text}})
			if got, err := l.Read(n); got != text || err != api.OK {
				t.Errorf("P7.1: Read(%d) of %d blocks: %.4q.., %d", n, last+1, got, err)
			}
		}
		was := state(d)
		for _, n := range []int{-1, last + 1, last + 2, -c[1], c[0], -c[0], math.MinInt, math.MinInt + c[1], math.MaxInt, math.MaxInt - c[1] + 1, 1 << 16, 1 << 32, -1 << 32} {
			if got, err := l.Read(n); got != "" || err != api.ErrArg {
				t.Errorf("P7.1: Read(%d) of %d blocks: %.4q.., %d", n, last+1, got, err)
			}
			wants(t, "P7.1: Commit to no block", l.Commit([]api.Write{{N: n, Text: full('z')}}), api.ErrArg)
			wants(t, "P7.1: Commit to no block", l.Commit([]api.Write{{N: 0, Text: full('z')}, {N: n, Text: full('z')}}), api.ErrArg)
		}
		if state(d) != was {
			t.Error("P7.1: a refused commit changed the disk")
		}
	}
}

// TestWrong: a wrong write among right ones, at each place; nothing is asked of
// the disk then.
func TestWrong(t *testing.T) {
	d := made(t, 24)
	l := opens(t, "P7.1", d, 12)
	commits(t, "P7.1", d, l, writes("a0", "b5", "c11"))
	was := state(d)
	d.Fall(1)
	var wrong []api.Write
	for _, length := range []int{0, 1, 510, 511, 513, 514, 1024, 1 << 16} {
		wrong = append(wrong, api.Write{N: 9, Text: strings.Repeat("z", length)})
	}
	for _, n := range []int{-1, 12, 0, 1, 2, 3, math.MinInt, math.MaxInt} { // 0 to 3 stand there already
		wrong = append(wrong, api.Write{N: n, Text: full('z')})
	}
	for _, one := range wrong {
		for at := range 5 {
			w := slices.Insert(writes("x0", "x1", "x2", "x3"), at, one)
			wants(t, fmt.Sprintf("P7.1: Commit with block %d, %d bytes, at %d", one.N, len(one.Text), at), l.Commit(w), api.ErrArg)
		}
	}
	wants(t, "P7.1: the same twice", l.Commit(writes("x4", "x4")), api.ErrArg)
	for _, none := range [][]api.Write{nil, {}, writes("x0")[:0]} {
		wants(t, "P7.1: Commit of none", l.Commit(none), api.OK)
	}
	if d.Off() || state(d) != was {
		t.Fatal("P7.1: a refused commit, or one of none, asked the disk for something")
	}
	wants(t, "P7.1: the fall that was said", l.Commit(writes("x4")), api.ErrOff)
}

// TestCounts: how many writes go in a log at once, and how many Writes and
// Flushes they take.
func TestCounts(t *testing.T) {
	for _, size := range []int{4, 5, 6, 7, 8, 9, 10, 11, 12, 13, 257, 258, 259, 260, 513, 514, 515, 516, 1030, 2048} {
		d := made(t, min(2*size+40, 8192))
		l := opens(t, "P7.1", d, size)
		want := empty(l.Blocks())
		room := (size - 2) / 2
		counts := []int{1, 2, 3, 255, 256, 257, 511, 512, 513, room - 1, room, room + 1, size - 4, size - 3, size - 2, size - 1, size, size + 1, size + 2, l.Blocks()}
		for i, count := range counts {
			if count < 0 || count > l.Blocks() {
				continue
			}
			w := (&texter{uint64(i)}).some(l.Blocks(), count)
			was := ""
			if count > room {
				was = state(d)
			}
			d.Fall(8*count + 33)
			err := l.Commit(w)
			d.Fall(0)
			switch {
			case err == api.OK && count <= size:
				want = laid(want, w)
			case err == api.ErrLog && count > room:
				if state(d) != was {
					t.Fatalf("P7.1: %d writes in %d sectors: refused, and the disk changed", count, size)
				}
			default:
				t.Fatalf("P7.1: %d writes in %d sectors: %d", count, size, err)
			}
			holds(t, "P7.1", l, want)
		}
		d.Crash(nil)
		d.On()
		holds(t, "P7.2", opens(t, "P7.2", d, size), want)
	}
}

// TestTooMany: a wrong write is told ahead of too many, and too many ahead of
// the power that goes.
func TestTooMany(t *testing.T) {
	d := made(t, 60)
	l := opens(t, "P7.1", d, 8)
	was := state(d)
	d.Fall(1)
	for _, count := range []int{9, 10, 20, 52} {
		w := row('x', count)
		wants(t, "P7.1: too many", l.Commit(w), api.ErrLog)
		w[count-1].Text = "x"
		wants(t, "P7.1: too many, and a short text", l.Commit(w), api.ErrArg)
		w[count-1] = w[0]
		wants(t, "P7.1: too many, and a block twice", l.Commit(w), api.ErrArg)
		w[count-1] = api.Write{N: 52, Text: full('x')}
		wants(t, "P7.1: too many, and no block", l.Commit(w), api.ErrArg)
	}
	wants(t, "P7.1: more than there are blocks", l.Commit(row('x', 53)), api.ErrArg)
	wants(t, "P7.1: very many", l.Commit(slices.Repeat(writes("x0", "x1"), 1<<18)), api.ErrArg)
	if d.Off() || state(d) != was {
		t.Error("P7.1: a refused commit asked the disk for something")
	}
	d.Crash(nil)
	wants(t, "P7.1: too many, without power", l.Commit(row('x', 20)), api.ErrOff)
}

// TestPower: the power goes at each Write and Flush of commits of many kinds, and
// of the Opens that follow.
func TestPower(t *testing.T) {
	g := &texter{3}
	for _, c := range []struct {
		sectors, size, times int
		before, w            []api.Write
	}{
		{5, 4, 4, nil, writes("x0")},
		{5, 4, 4, writes("a0"), writes("x0")},
		{9, 4, 3, writes("a4"), writes("x4")},
		{16, 8, 3, writes("a0", "b1"), writes("x0", "y1")},
		{16, 8, 3, writes("a0", "b1", "c2"), writes("z2", "x0", "y7")},
		{16, 6, 3, writes("a0", "b1"), writes("b0", "a1")},
		{16, 8, 3, writes("a0", "b1"), writes("\x000", "b1")},
		{16, 8, 3, g.some(8, 3), g.some(8, 3)},
		{40, 14, 2, g.some(26, 6), g.some(26, 6)},
		{120, 80, 1, g.some(40, 39), g.some(40, 30)},
		{800, 530, 1, g.some(270, 260), g.some(270, 264)},
	} {
		d := made(t, c.sectors)
		l := opens(t, "P7.1", d, c.size)
		commits(t, "P7.1", d, l, c.before)
		power(t, fmt.Sprintf("P7.2: %d writes in %d sectors", len(c.w), c.size), d, c.size, c.times, laid(empty(l.Blocks()), c.before), c.w)
	}
}

// sameSum is another text of 512 bytes with the same sum: the byte 1 laid over a
// text at some place, and what it makes of the sum over the eight behind it.
func sameSum(text string, at int) string {
	b := []byte(text)
	b[at] ^= 1
	made := sum.Of("\x01") ^ sum.Of("\x00")
	for i := range 8 {
		b[at+1+i] ^= byte(made >> (8 * i))
	}
	return string(b)
}

// TestOneSum: texts are not taken for one another because their sums are one.
func TestOneSum(t *testing.T) {
	x := full('x')
	for _, at := range []int{0, 100, 503} {
		y := sameSum(x, at)
		if x == y || sum.Of(x) != sum.Of(y) {
			t.Fatal("two texts with one sum")
		}
		d := made(t, 12)
		l := opens(t, "P7.1", d, 6)
		commits(t, "P7.1", d, l, []api.Write{{N: 1, Text: x}, {N: 2, Text: y}})
		old := laid(empty(6), []api.Write{{N: 1, Text: x}, {N: 2, Text: y}})
		power(t, "P7.2: one sum", d, 6, 2, old, []api.Write{{N: 1, Text: y}, {N: 2, Text: x}})
		power(t, "P7.2: one sum", d, 6, 2, old, []api.Write{{N: 0, Text: y}, {N: 3, Text: y}})
		power(t, "P7.2: one sum", d, 6, 2, old, []api.Write{{N: 3, Text: x}, {N: 4, Text: y}})
	}
}

// TestOwnTexts: blocks that hold what the log's own sectors hold, at rest and
// with a commit under way, are blocks like others.
func TestOwnTexts(t *testing.T) {
	d := made(t, 18)
	l := opens(t, "P7.1", d, 8)
	commits(t, "P7.1", d, l, writes("a0", "b1", "c2"))
	old := laid(empty(10), writes("a0", "b1", "c2"))
	own := map[string]struct{}{}
	gather := func(_ string, d *disk.Disk) {
		for n := range 8 {
			text, _ := d.Read(n)
			own[text] = struct{}{}
		}
	}
	commit := func(d *disk.Disk) api.Errno { return opens(t, "P7.1", d, 8).Commit(writes("x0", "y1", "z2")) }
	falls(t, "own texts", d, commit, gather)
	gather("", d)
	texts := slices.Sorted(maps.Keys(own))
	for i := range texts {
		var w []api.Write
		for k := range 3 {
			w = append(w, api.Write{N: (i + k) % 10, Text: texts[(i+k*k)%len(texts)]})
		}
		power(t, "P7.2: own texts", d, 8, 2, old, w)
		c := d.Copy()
		l := opens(t, "P7.1", c, 8)
		commits(t, "P7.1", c, l, w)
		decided(t, "own texts", c, 8, laid(old, w), laid(old, w))
	}
}

// TestUnderWay: what is decided for a commit under way is done by Open alone:
// a commit that comes later doesn't bring an earlier one back.
func TestUnderWay(t *testing.T) {
	d := made(t, 16)
	l := opens(t, "P7.1", d, 8)
	commits(t, "P7.1", d, l, writes("a0", "b1"))
	commit := func(d *disk.Disk) api.Errno { return opens(t, "P7.1", d, 8).Commit(writes("x0", "y1", "z2")) }
	falls(t, "under way", d, commit, func(what string, d *disk.Disk) {
		l := opens(t, what, d, 8)
		want := blocks(t, what, l)
		for _, w := range [][]api.Write{writes("p5"), writes("q0"), writes("r1", "s2", "t3")} {
			power(t, "P7.2: "+what, d, 8, 1, want, w)
			commits(t, what, d, l, w)
			want = laid(want, w)
			d.Crash(nil)
			d.On()
			l = opens(t, what, d, 8)
			holds(t, "P7.2: "+what, l, want)
		}
	})
}

// TestOthers: of a disk that others wrote to nothing is said, but that every call
// ends without a panic; what Open finds pending there is not pending behind it.
func TestOthers(t *testing.T) {
	d := made(t, 16)
	opens(t, "P7.1", d, 8)
	wants(t, "Write", d.Write(15, full('z')), api.OK)
	l := opens(t, "P7.1: a pending write", d, 8)
	holds(t, "P7.1: a pending write", l, laid(empty(8), writes("z7")))
	d.Crash(nil)
	d.On()
	holds(t, "P7.1: a pending write", opens(t, "P7.1", d, 8), laid(empty(8), writes("z7")))

	g := &texter{5}
	commit := func(d *disk.Disk) api.Errno { return opens(t, "P7.1", d, 8).Commit(writes("x0", "y1", "z2")) }
	falls(t, "others", d, commit, func(what string, d *disk.Disk) {
		for _, text := range []string{full(0), full(255), g.text(512), full(0)[:3] + full(200)[3:]} {
			for n := 1; n < 8; n++ {
				c := d.Copy()
				wants(t, "Write", c.Write(n, text), api.OK)
				if l, err := log.Open(c, 8); err == api.OK {
					blocks(t, what, l)
					commits(t, what, c, l, writes("p0", "q1", "r7"))
				} else if l != nil || c.Off() || c.Pending() != 1 {
					t.Fatalf("R2: %s: Open of a disk that others wrote to: %d", what, err)
				}
			}
		}
	})
}

// TestDead: a log that met a disk without power is dead for ever; one that met
// none goes on.
func TestDead(t *testing.T) {
	for i, meet := range []func(d *disk.Disk, l *log.Log) api.Errno{
		func(d *disk.Disk, l *log.Log) api.Errno { d.Crash(nil); _, err := l.Read(0); return err },
		func(d *disk.Disk, l *log.Log) api.Errno { d.Crash(nil); _, err := l.Read(-1); return err },
		func(d *disk.Disk, l *log.Log) api.Errno { d.Crash(nil); return l.Commit(nil) },
		func(d *disk.Disk, l *log.Log) api.Errno { d.Crash(nil); return l.Commit(writes("x0")) },
		func(d *disk.Disk, l *log.Log) api.Errno { d.Crash(nil); return l.Commit(writes("x0", "x0")) },
		func(d *disk.Disk, l *log.Log) api.Errno { d.Crash(nil); return l.Commit(row('x', 12)) },
		func(d *disk.Disk, l *log.Log) api.Errno { d.Fall(1); return l.Commit(writes("x0")) },
		func(d *disk.Disk, l *log.Log) api.Errno { d.Fall(2); return l.Commit(writes("x0")) },
		func(d *disk.Disk, l *log.Log) api.Errno { d.Fall(4); return l.Commit(writes("x0", "y1", "z2")) },
	} {
		what := "P7.1: dead, " + strconv.Itoa(i)
		d := made(t, 20)
		l := opens(t, what, d, 8)
		commits(t, what, d, l, writes("a0", "b11"))
		wants(t, what, meet(d, l), api.ErrOff)
		dies := func(when string) {
			t.Helper()
			was := state(d)
			for _, n := range []int{0, 11, 12, -1} {
				if text, err := l.Read(n); text != "" || err != api.ErrOff {
					t.Fatalf("%s, %s: Read(%d): %.4q, %d", what, when, n, text, err)
				}
			}
			for _, w := range [][]api.Write{nil, writes("x0"), writes("x0", "x0"), writes("x12"), row('x', 12)} {
				wants(t, what+", "+when+": Commit", l.Commit(w), api.ErrOff)
			}
			if l.Blocks() != 12 {
				t.Fatalf("%s, %s: Blocks: %d", what, when, l.Blocks())
			}
			if state(d) != was {
				t.Fatalf("%s, %s: a dead log changed the disk", what, when)
			}
		}
		dies("off")
		refuses(t, what, d, 8, api.ErrOff)
		refuses(t, what, d, 3, api.ErrOff)
		refuses(t, what, d, 9, api.ErrOff)
		d.On()
		dies("on again")
		other := opens(t, what, d, 8)
		dies("beside a new one")
		holds(t, what, other, laid(empty(12), writes("a0", "b11")))
		commits(t, what, d, other, writes("x0"))
		dies("behind a commit of a new one")
	}
	d := made(t, 20)
	l := opens(t, "P7.1", d, 8)
	commits(t, "P7.1", d, l, writes("a0"))
	d.Crash(nil)
	if l.Blocks() != 12 {
		t.Error("P7.1: Blocks of a log without power")
	}
	d.On()
	commits(t, "P7.1: it met nothing", d, l, writes("b1"))
	holds(t, "P7.1: it met nothing", l, laid(empty(12), writes("a0", "b1")))
}

// TestOffFirst: Open asks for the power ahead of all else.
func TestOffFirst(t *testing.T) {
	for _, size := range []int{8, 3, 16, 9, -1, math.MaxInt} {
		d := made(t, 16)
		d.Crash(nil)
		refuses(t, "P7.1: new, and off", d, size, api.ErrOff)
		d.On()
		wants(t, "Write", d.Write(0, full('x')), api.OK)
		wants(t, "Flush", d.Flush(), api.OK)
		d.Crash(nil)
		refuses(t, "P7.1: torn, and off", d, size, api.ErrOff)
	}
}

// TestMany: however many commits there were, the next one goes.
func TestMany(t *testing.T) {
	for _, c := range [][2]int{{5, 4}, {12, 5}, {40, 10}, {300, 60}, {1200, 600}} {
		g := &texter{uint64(c[0])}
		d := made(t, c[0])
		l := opens(t, "P7.4", d, c[1])
		want := empty(l.Blocks())
		room := min((c[1]-2)/2, l.Blocks())
		for i := range 300 {
			count := room
			if i%3 == 0 {
				count = 1 + g.below(room)
			}
			w := g.some(l.Blocks(), count)
			d.Fall(8*count + 33)
			commits(t, "P7.4", d, l, w)
			d.Fall(0)
			want = laid(want, w)
			if i%10 == 0 {
				holds(t, "P7.4", l, want)
				d.Crash(nil)
				d.On()
				holds(t, "P7.2, P7.4", opens(t, "P7.4", d, c[1]), want)
			}
			if i%25 == 0 {
				l = opens(t, "P7.4", d, c[1])
			}
		}
		holds(t, "P7.4", l, want)
	}
}

// life is a disk with a log, and what the chapter says of its blocks.
type life struct {
	g         *texter
	d         *disk.Disk
	size      int
	l         *log.Log
	met       bool        // the log met ErrOff
	sure      []string    // what all commits made that were answered with OK
	under     []api.Write // the commit under way, if the power went in one
	decisions int
}

func (f *life) open(t *testing.T, what string) {
	if !f.d.Off() && f.g.below(5) == 0 {
		refuses(t, what, f.d, []int{0, 3, f.d.Sectors(), -1}[f.g.below(4)], api.ErrArg)
	}
	l, err := log.Open(f.d, f.size)
	switch {
	case f.d.Off(): // as it was, or as the power went
		wants(t, what+": Open", err, api.ErrOff)
		if l != nil {
			t.Fatalf("%s: a log beside an error", what)
		}
		f.l = nil
		return
	case err != api.OK || f.d.Pending() != 0:
		t.Fatalf("%s: Open: %d, %d pending", what, err, f.d.Pending())
	}
	f.l, f.met = l, false
	got := blocks(t, what, l)
	if !slices.Equal(got, f.sure) && !slices.Equal(got, laid(f.sure, f.under)) {
		t.Fatalf("P7.2: %s: neither all nor none", what)
	}
	if f.under != nil {
		f.decisions++
	}
	f.sure, f.under = got, nil
}

func (f *life) commit(t *testing.T, what string) {
	blocks := len(f.sure)
	w := f.g.some(blocks, f.g.below(1+min((f.size-2)/2, blocks)))
	want := api.OK
	switch f.g.below(8) {
	case 0:
		w, want = append(w, api.Write{N: blocks + f.g.below(3), Text: full('x')}), api.ErrArg
	case 1:
		w, want = append(w, api.Write{N: f.g.below(blocks), Text: full('x')[f.g.below(512):] + "y"[f.g.below(2):]}), api.ErrArg
		if len(w[len(w)-1].Text) == 512 {
			return
		}
	case 2:
		if len(w) > 0 {
			w, want = append(w, w[f.g.below(len(w))]), api.ErrArg
		}
	case 3:
		if blocks > f.size {
			w, want = f.g.some(blocks, f.size+1+f.g.below(blocks-f.size)), api.ErrLog
		}
	}
	off := f.d.Off() || f.met
	err := f.l.Commit(w)
	switch {
	case off:
		wants(t, what+": Commit without power", err, api.ErrOff)
		f.met = true
	case want == api.OK && len(w) > 0 && f.d.Off():
		wants(t, what+": Commit as the power goes", err, api.ErrOff)
		f.met, f.under = true, w
	default:
		wants(t, what+": Commit", err, want)
		if err == api.OK {
			f.sure = laid(f.sure, w)
		}
		if f.d.Pending() != 0 {
			t.Fatalf("%s: pending behind a Commit", what)
		}
	}
}

func (f *life) read(t *testing.T, what string) {
	n := f.g.below(len(f.sure)+4) - 2
	off := f.d.Off() || f.met
	got, err := f.l.Read(n)
	switch {
	case off:
		wants(t, what+": Read without power", err, api.ErrOff)
		f.met = true
	case n < 0 || n >= len(f.sure):
		wants(t, what+": Read of no block", err, api.ErrArg)
	case err != api.OK || got != f.sure[n]:
		t.Fatalf("%s: Read(%d): %.4q.., %d", what, n, got, err)
	}
	if err != api.OK && got != "" {
		t.Fatalf("%s: Read(%d): %.4q beside an error", what, n, got)
	}
}

func (f *life) lose() {
	var kept []int
	for i := range f.d.Pending() {
		if f.g.below(2) == 0 {
			kept = append(kept, i)
		}
	}
	f.d.Crash(kept)
}

// walk makes many calls, and holds each answer against the chapter.
func walk(t *testing.T, seed uint64, steps int) int {
	g := &texter{seed}
	size := 4 + g.below(12)
	d := made(t, size+1+g.below(30))
	f := &life{g: g, d: d, size: size, sure: empty(d.Sectors() - size)}
	for i := range steps {
		what := fmt.Sprintf("walk %d, step %d", seed, i)
		switch k := g.below(12); {
		case k == 0:
			d.Fall(1 + g.below(20))
		case k == 1:
			f.lose()
		case k <= 4 && d.Off():
			d.On()
		case k == 5 || f.l == nil:
			f.open(t, what)
		case k <= 8:
			f.read(t, what)
		default:
			f.commit(t, what)
		}
		if f.l != nil && f.l.Blocks() != len(f.sure) {
			t.Fatalf("%s: Blocks: %d", what, f.l.Blocks())
		}
	}
	return f.decisions
}

func TestWalks(t *testing.T) {
	decisions := 0
	for seed := range 600 {
		decisions += walk(t, uint64(seed), 200)
	}
	if decisions < 1000 {
		t.Errorf("the power went in %d commits alone", decisions)
	}
}

// TestTwice: the same calls on new disks give the same disk.
func TestTwice(t *testing.T) {
	all := func() string {
		g := &texter{11}
		d := made(t, 50)
		l := opens(t, "R4", d, 20)
		for range 20 {
			commits(t, "R4", d, l, g.some(30, 9))
		}
		return state(d)
	}
	if all() != all() {
		t.Error("R4: the same commits, and two disks")
	}
}

// TestBeside: logs of disks that are used beside one another give what they give
// alone.
func TestBeside(t *testing.T) {
	d := made(t, 30)
	l := opens(t, "P7.1", d, 10)
	commits(t, "P7.1", d, l, writes("a0"))
	t.Run("all", func(t *testing.T) {
		for i := range 8 {
			c := d.Copy()
			t.Run(strconv.Itoa(i), func(t *testing.T) {
				t.Parallel()
				walk(t, uint64(1000+i), 200)
				l := opens(t, "P7.1", c, 10)
				w := writes("bcdefghi"[i:i+1]+"0", "x19")
				commits(t, "P7.1", c, l, w)
				holds(t, "P7.1: beside", l, laid(empty(20), w))
			})
		}
	})
	holds(t, "P7.1: the first", l, laid(empty(20), writes("a0")))
}

// TestHandedIn: lists and texts that are handed in are neither changed, spare
// room too, nor kept.
func TestHandedIn(t *testing.T) {
	room := writes("x3", "y0", "z1", "p7", "q8", "r9")
	was := slices.Clone(room)
	b := []byte(full('t'))
	d := made(t, 30)
	l := opens(t, "P7.5", d, 20)
	commits(t, "P7.5", d, l, room[:3])
	if !slices.Equal(room, was) {
		t.Error("P7.5: Commit changed its list")
	}
	clear(room)
	commits(t, "P7.5", d, l, []api.Write{{N: 5, Text: unsafe.String(&b[0], len(b))}})
	if string(b) != full('t') {
		t.Error("P7.5: Commit changed a text")
	}
	clear(b)
	want := laid(empty(10), writes("x3", "y0", "z1", "t5"))
	holds(t, "P7.5: kept", l, want)
	d.Crash(nil)
	d.On()
	holds(t, "P7.5: kept", opens(t, "P7.5", d, 20), want)

	for n := 1; n < 10; n++ { // the same where the power goes
		c := d.Copy()
		l := opens(t, "P7.5", c, 20)
		b := []byte(full('u'))
		w := []api.Write{{N: 5, Text: unsafe.String(&b[0], len(b))}, {N: 6, Text: full('v')}}
		c.Fall(n)
		if l.Commit(w) != api.ErrOff {
			break
		}
		if w[0].N != 5 || w[1] != (api.Write{N: 6, Text: full('v')}) || string(b) != full('u') {
			t.Error("P7.5: Commit changed what was handed in")
		}
		clear(b)
		clear(w)
		c.Crash([]int{0, 1, 2, 3})
		c.On()
		decided(t, "P7.5: kept", c, 20, want, laid(want, writes("u5", "v6")))
	}
}

// TestNewMemory: answers of Read share nothing with one another.
func TestNewMemory(t *testing.T) {
	d := made(t, 12)
	l := opens(t, "P7.5", d, 8)
	text := full('a')
	commits(t, "P7.5", d, l, []api.Write{{N: 1, Text: text}})
	seen := map[*byte]struct{}{unsafe.StringData(text): {}}
	var all []string // so that none of them is let go of
	for range 3 {
		for _, got := range blocks(t, "P7.5", l) {
			if _, ok := seen[unsafe.StringData(got)]; ok {
				t.Fatal("R3: an answer is not new")
			}
			seen[unsafe.StringData(got)] = struct{}{}
			all = append(all, got)
		}
	}
	if len(all) != 12 {
		t.Errorf("P7.1: %d answers", len(all))
	}
}

// TestReadAtOnce: blocks that many read at once are read as by one; with the race
// detector it also shows that reading writes nothing.
func TestReadAtOnce(t *testing.T) {
	d := made(t, 40)
	l := opens(t, "at once", d, 20)
	commits(t, "at once", d, l, writes("a0", "b1", "c7", "d19"))
	var all sync.WaitGroup
	for range 8 {
		all.Go(func() {
			for n := range 20 {
				want, wantErr := d.Read(20 + n)
				if got, err := l.Read(n); got != want || err != wantErr || l.Blocks() != 20 {
					t.Errorf("P7.1: read by many at once: block %d: %.4q, %d, want %.4q", n, got, err, want)
				}
			}
			if _, err := l.Read(20); err != api.ErrArg {
				t.Errorf("P7.1: read by many at once: no block: %d", err)
			}
		})
	}
	all.Wait()
}
