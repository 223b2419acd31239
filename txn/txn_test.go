package txn_test

import (
	"fmt"
	"maps"
	"math"
	"slices"
	"strconv"
	"strings"
	"testing"
	"unsafe"

	"coffer/api"
	"coffer/disk"
	"coffer/log"
	"coffer/txn"
)

// texter tells texts and numbers that look like chance and are the same each time.
type texter struct{ x uint64 }

func (t *texter) number() uint64 {
	t.x += 0x9e3779b97f4a7c15
	z := t.x
	z = (z ^ z>>30) * 0xbf58476d1ce4e5b9
	z = (z ^ z>>27) * 0x94d049bb133111eb
	return z ^ z>>31
}

func (t *texter) below(n int) int { return int(t.number() % uint64(n)) }

// text has n bytes of all kinds.
func (t *texter) text(n int) string {
	b := make([]byte, n)
	for i := range b {
		b[i] = byte(t.number())
	}
	return string(b)
}

// mixed is the numbers below count, in no order.
func (t *texter) mixed(count int) []int {
	numbers := make([]int, count)
	for i := range numbers {
		k := t.below(i + 1)
		numbers[i] = numbers[k]
		numbers[k] = i
	}
	return numbers
}

// full is a block of one letter.
func full(c byte) string { return strings.Repeat(string([]byte{c}), 512) }

// writes are letters, each for the block behind it: "x0" is x in block 0.
func writes(list ...string) []api.Write {
	var w []api.Write
	for _, s := range list {
		n, _ := strconv.Atoi(s[1:])
		w = append(w, api.Write{N: n, Text: full(s[0])})
	}
	return w
}

func opens(t *testing.T, what string, d *disk.Disk, size int) *log.Log {
	t.Helper()
	l, err := log.Open(d, size)
	if err != api.OK {
		t.Fatalf("%s: Open(%d) of %d sectors: %d", what, size, d.Sectors(), err)
	}
	return l
}

// made is a log of so many blocks, each with a letter of its own, and its disk.
func made(t *testing.T, size, blocks int) (*log.Log, *disk.Disk) {
	t.Helper()
	d, err := disk.New(size + blocks)
	if err != api.OK {
		t.Fatalf("New(%d): %d", size+blocks, err)
	}
	l := opens(t, "a new disk", d, size)
	for n, text := range old(blocks) {
		if err := l.Commit([]api.Write{{N: n, Text: text}}); err != api.OK {
			t.Fatalf("log's Commit: %d", err)
		}
	}
	return l, d
}

// old is what made lays in the blocks.
func old(blocks int) []string {
	var all []string
	for n := range blocks {
		all = append(all, full(byte('A'+n%26)))
	}
	return all
}

func wants(t *testing.T, what string, got, want api.Errno) {
	t.Helper()
	if got != want {
		t.Fatalf("%s: %d, want %d", what, got, want)
	}
}

// lays: does it take these writes?
func lays(t *testing.T, what string, x *txn.Tx, w []api.Write) {
	t.Helper()
	for _, one := range w {
		wants(t, fmt.Sprintf("%s: Write(%d)", what, one.N), x.Write(one.N, one.Text), api.OK)
	}
}

// reader is a log or a transaction.
type reader interface {
	Blocks() int
	Read(n int) (string, api.Errno)
}

// holds: are these the blocks that it sees?
func holds(t *testing.T, what string, r reader, want []string) {
	t.Helper()
	if r.Blocks() != len(want) {
		t.Fatalf("%s: Blocks: %d, want %d", what, r.Blocks(), len(want))
	}
	for n := range want {
		reads(t, what, r, n, want[n], api.OK)
	}
}

func reads(t *testing.T, what string, r reader, n int, want string, err api.Errno) {
	t.Helper()
	if got, e := r.Read(n); got != want || e != err {
		t.Fatalf("%s: Read(%d): %.4q.. of %d bytes, %d, want %.4q.. and %d", what, n, got, len(got), e, want, err)
	}
}

// laid is blocks with writes laid in them.
func laid(all []string, w []api.Write) []string {
	all = slices.Clone(all)
	for _, one := range w {
		all[one.N] = one.Text
	}
	return all
}

func dirty(t *testing.T, what string, x *txn.Tx, want int) {
	t.Helper()
	if x.Dirty() != want {
		t.Fatalf("%s: Dirty: %d, want %d", what, x.Dirty(), want)
	}
}

// state is all that can be told of a disk: what is seen, what is safe, how many
// writes are pending, and whether it is off.
func state(d *disk.Disk) string {
	seen, safe := d.Copy(), d.Copy()
	seen.Crash(upTo(seen.Pending()))
	safe.Crash(nil)
	var b strings.Builder
	for _, c := range []*disk.Disk{seen, safe} {
		c.On()
		for n := range c.Sectors() {
			text, err := c.Read(n)
			b.WriteString(strconv.Itoa(int(err)) + text)
		}
	}
	return b.String() + strconv.Itoa(d.Pending()) + strconv.FormatBool(d.Off())
}

func upTo(count int) []int {
	var list []int
	for i := range count {
		list = append(list, i)
	}
	return list
}

// crash takes the power and gives it back.
func crash(d *disk.Disk, kept []int) {
	d.Crash(kept)
	d.On()
}

// isOver: does every call answer as on a transaction that is over, and is
// nothing of the disk changed by it?
func isOver(t *testing.T, what string, x *txn.Tx, blocks int, d *disk.Disk) {
	t.Helper()
	was := state(d)
	calls := []func(){
		func() { wants(t, what+": Commit", x.Commit(), api.ErrState) },
		func() { x.Abort() },
		func() { dirty(t, what, x, 0) },
		func() {
			for _, n := range []int{math.MinInt, -1, 0, 1, 2, 3, blocks - 1, blocks, math.MaxInt} {
				reads(t, what, x, n, "", api.ErrState)
			}
		},
		func() {
			for _, n := range []int{math.MinInt, -1, 0, 1, 2, 3, blocks - 1, blocks, math.MaxInt} {
				for _, length := range []int{0, 511, 512, 513} {
					wants(t, what+": Write", x.Write(n, strings.Repeat("o", length)), api.ErrState)
				}
			}
		},
		func() {
			if x.Blocks() != blocks {
				t.Fatalf("%s: Blocks: %d, want %d", what, x.Blocks(), blocks)
			}
		},
	}
	for _, first := range calls {
		for _, second := range calls {
			first()
			second()
		}
	}
	if state(d) != was {
		t.Fatalf("%s: a call changed the disk", what)
	}
}

func TestExamples(t *testing.T) {
	l, d := made(t, 8, 6)
	x, u := txn.Begin(l), txn.Begin(l)
	was := old(6)[3]
	wants(t, "P8.1: Write", x.Write(3, full('a')), api.OK)
	reads(t, "P8.2: its own", x, 3, full('a'), api.OK)
	reads(t, "P8.2: the other", u, 3, was, api.OK)
	reads(t, "P8.2: the log", l, 3, was, api.OK)
	dirty(t, "P8.1", x, 1)
	wants(t, "P8.1: Write", x.Write(3, full('b')), api.OK)
	dirty(t, "P8.1: twice", x, 1)
	wants(t, "P8.3: Commit", x.Commit(), api.OK)
	reads(t, "P8.4: the other", u, 3, full('b'), api.OK)
	reads(t, "P8.3: the log", l, 3, full('b'), api.OK)
	isOver(t, "P8.1: the first example", x, 6, d)

	x = txn.Begin(l)
	wants(t, "P8.1: Write(-1)", x.Write(-1, full('a')), api.ErrArg)
	wants(t, "P8.1: Write(Blocks)", x.Write(x.Blocks(), full('a')), api.ErrArg)
	wants(t, "P8.1: Write of 511 bytes", x.Write(0, full('a')[1:]), api.ErrArg)
	reads(t, "P8.1: log's error", x, x.Blocks(), "", api.ErrArg)

	wants(t, "P8.1: Write", x.Write(0, full('a')), api.OK)
	x.Abort()
	reads(t, "P8.2: aborted", l, 0, old(6)[0], api.OK)
	x = txn.Begin(l)
	d.Fall(1)
	wants(t, "P8.1: an empty Commit", x.Commit(), api.OK)
	if d.Off() || d.Pending() != 0 {
		t.Error("P8.1: an empty Commit asked something of the disk")
	}
}

// TestWriteArguments: which blocks and which lengths are taken.
func TestWriteArguments(t *testing.T) {
	for _, blocks := range []int{1, 2, 9, 300} {
		l, d := made(t, 8, blocks)
		before := state(d)
		numbers := []int{math.MinInt, math.MinInt + 1, -1 << 32, -blocks, -2, -1, 0, 1, blocks / 2, blocks - 1, blocks, blocks + 1, blocks + 8, 1 << 13, 1 << 16, 1 << 32, 1<<32 + 1, math.MaxInt}
		for _, own := range []bool{false, true} {
			for _, n := range numbers {
				for _, length := range []int{0, 1, 256, 510, 511, 512, 513, 514, 1024, 1<<16 + 512} {
					what := fmt.Sprintf("P8.1: Write(%d, %d bytes) of %d blocks", n, length, blocks)
					x := txn.Begin(l)
					want := old(blocks)
					if own {
						want[blocks-1] = full('w')
						lays(t, what, x, []api.Write{{N: blocks - 1, Text: want[blocks-1]}})
					}
					count := x.Dirty()
					text := strings.Repeat("t", length)
					if n < 0 || n >= blocks || length != 512 {
						wants(t, what, x.Write(n, text), api.ErrArg)
						dirty(t, what, x, count)
					} else {
						wants(t, what, x.Write(n, text), api.OK)
						if !own || n != blocks-1 {
							count++
						}
						dirty(t, what, x, count)
						want[n] = text
					}
					holds(t, what, x, want)
				}
			}
		}
		if state(d) != before {
			t.Errorf("P8.2: writes alone changed a disk of %d blocks", blocks)
		}
	}
}

// TestReadArguments: of what it has not written it tells what the log tells.
func TestReadArguments(t *testing.T) {
	l, _ := made(t, 8, 5)
	x := txn.Begin(l)
	lays(t, "P8.1", x, writes("a0", "b4"))
	for _, n := range []int{math.MinInt, -1 << 32, -5, -1, 1, 2, 3, 5, 6, 13, 1 << 16, 1 << 32, 1<<32 + 1, math.MaxInt} {
		text, err := l.Read(n)
		reads(t, "P8.1: as the log", x, n, text, err)
	}
	reads(t, "P8.1: one beyond", x, 5, "", api.ErrArg)
	reads(t, "P8.1: -1", x, -1, "", api.ErrArg)
	reads(t, "P8.1: the first", x, 0, full('a'), api.OK)
	reads(t, "P8.1: the last", x, 4, full('b'), api.OK)
	dirty(t, "P8.1: Read wrote", x, 2)
}

// TestWrittenTwice: a block that is written again is one block, with its last text.
func TestWrittenTwice(t *testing.T) {
	l, d := made(t, 5, 5) // three blocks go in the log, and no more
	x := txn.Begin(l)
	for _, c := range []byte("mnopqrst") {
		for n := range 3 {
			wants(t, "P8.1: Write", x.Write(n, full(c)), api.OK)
			reads(t, "P8.2", x, n, full(c), api.OK)
		}
		dirty(t, "P8.1", x, 3)
	}
	lays(t, "P8.1: what was there", x, []api.Write{{N: 1, Text: old(5)[1]}})
	dirty(t, "P8.1: as the log has it", x, 3)
	wants(t, "P8.3: Commit", x.Commit(), api.OK)
	want := laid(old(5), writes("t0", "t2"))
	holds(t, "P8.3", l, want)
	crash(d, nil)
	holds(t, "P8.3: behind a crash", opens(t, "P8.3", d, 5), want)
}

// TestSameText: a block that is written as the log has it is written: it stays
// so, whatever others commit meanwhile.
func TestSameText(t *testing.T) {
	l, _ := made(t, 8, 4)
	x, y := txn.Begin(l), txn.Begin(l)
	lays(t, "P8.1", x, []api.Write{{N: 2, Text: old(4)[2]}})
	dirty(t, "P8.1", x, 1)
	lays(t, "P8.1", y, writes("y2"))
	wants(t, "P8.3", y.Commit(), api.OK)
	holds(t, "P8.2", x, old(4))
	wants(t, "P8.3", x.Commit(), api.OK)
	holds(t, "P8.3", l, old(4))
}

// TestEmptyCommit: it is OK, and nothing is asked of the disk, whatever the log
// and the disk are like.
func TestEmptyCommit(t *testing.T) {
	conditions := map[string]func(l *log.Log, d *disk.Disk){
		"at rest":       func(l *log.Log, d *disk.Disk) { d.Fall(1) },
		"pending":       func(l *log.Log, d *disk.Disk) { d.Write(12, full('p')); d.Fall(1) },
		"off":           func(l *log.Log, d *disk.Disk) { d.Crash(nil) },
		"fallen":        func(l *log.Log, d *disk.Disk) { d.Fall(2); l.Commit(writes("x0")) },
		"dead":          func(l *log.Log, d *disk.Disk) { d.Fall(2); l.Commit(writes("x0")); d.On() },
		"dead, pending": func(l *log.Log, d *disk.Disk) { d.Crash(nil); l.Read(0); d.On(); d.Write(12, full('p')) },
	}
	for what, condition := range conditions {
		l, d := made(t, 8, 6)
		early := txn.Begin(l)
		condition(l, d)
		late := txn.Begin(l)
		late.Write(6, full('w'))
		late.Write(0, full('w')[1:])
		for _, x := range []*txn.Tx{early, late} {
			was := state(d)
			dirty(t, "P8.1: "+what, x, 0)
			wants(t, "P8.1: an empty Commit: "+what, x.Commit(), api.OK)
			if state(d) != was {
				t.Fatalf("P8.1: %s: an empty Commit changed the disk", what)
			}
			isOver(t, "P8.1: an empty Commit: "+what, x, 6, d)
		}
	}
}

// TestNothingAsked: a log that meets a disk without power is dead for good, so
// one that goes on when the power is back was asked nothing.
func TestNothingAsked(t *testing.T) {
	l, d := made(t, 8, 6)
	early := txn.Begin(l)
	d.Crash(nil)
	for _, x := range []*txn.Tx{early, txn.Begin(l)} {
		lays(t, "P8.1: off", x, writes("a0", "b5", "c0"))
		wants(t, "P8.1: off", x.Write(6, full('a')), api.ErrArg)
		wants(t, "P8.1: off", x.Write(0, ""), api.ErrArg)
		reads(t, "P8.2: off", x, 0, full('c'), api.OK)
		reads(t, "P8.2: off", x, 5, full('b'), api.OK)
		dirty(t, "P8.1: off", x, 2)
		if x.Blocks() != 6 {
			t.Errorf("P8.1: off: Blocks: %d", x.Blocks())
		}
		x.Abort()
		isOver(t, "P8.1: off", x, 6, d)
	}
	none := txn.Begin(l)
	wants(t, "P8.1: off: an empty Commit", none.Commit(), api.OK)
	isOver(t, "P8.1: off", none, 6, d)
	d.On()
	holds(t, "P8.1: nothing was asked of the log", l, old(6))
}

// ends are the ways to be over: each ends a transaction that wrote blocks 0 and 2.
func ends() map[string]func(t *testing.T, x *txn.Tx, d *disk.Disk) {
	return map[string]func(t *testing.T, x *txn.Tx, d *disk.Disk){
		"a Commit that is OK": func(t *testing.T, x *txn.Tx, d *disk.Disk) {
			wants(t, "P8.1: Commit", x.Commit(), api.OK)
		},
		"a Commit of too many": func(t *testing.T, x *txn.Tx, d *disk.Disk) {
			lays(t, "P8.1", x, writes("p1", "q3", "r4", "s5", "t6", "u7", "v8"))
			wants(t, "P8.1: Commit", x.Commit(), api.ErrLog)
		},
		"a Commit whose power goes first": func(t *testing.T, x *txn.Tx, d *disk.Disk) {
			d.Fall(1)
			wants(t, "P8.1: Commit", x.Commit(), api.ErrOff)
		},
		"a Commit whose power goes last": func(t *testing.T, x *txn.Tx, d *disk.Disk) {
			d.Fall(asked(d, x))
			wants(t, "P8.1: Commit", x.Commit(), api.ErrOff)
		},
		"a Commit without power": func(t *testing.T, x *txn.Tx, d *disk.Disk) {
			d.Crash(nil)
			wants(t, "P8.1: Commit", x.Commit(), api.ErrOff)
		},
		"an Abort": func(t *testing.T, x *txn.Tx, d *disk.Disk) { x.Abort() },
		"two Aborts": func(t *testing.T, x *txn.Tx, d *disk.Disk) {
			x.Abort()
			x.Abort()
		},
	}
}

// asked is how many Writes and Flushes a Commit of what the transaction wrote
// asks of the disk, counted on copies of it.
func asked(d *disk.Disk, x *txn.Tx) int {
	var w []api.Write
	for n := range 9 {
		text, _ := x.Read(n)
		if text != old(9)[n] {
			w = append(w, api.Write{N: n, Text: text})
		}
	}
	for n := 1; ; n++ {
		c := d.Copy()
		l, _ := log.Open(c, 8)
		c.Fall(n)
		if l.Commit(w) == api.OK {
			return n - 1
		}
	}
}

// TestOver: whatever ended it, every call tells so, and goes on telling so
// though the power comes back and others commit.
func TestOver(t *testing.T) {
	for what, end := range ends() {
		l, d := made(t, 8, 9)
		x := txn.Begin(l)
		lays(t, what, x, writes("a0", "b2"))
		end(t, x, d)
		isOver(t, "P8.1: behind "+what, x, 9, d)
		if d.Off() {
			crash(d, nil)
			isOver(t, "P8.1: with the power back, behind "+what, x, 9, d)
			l = opens(t, what, d, 8)
		}
		y := txn.Begin(l)
		lays(t, what, y, writes("y0"))
		wants(t, "P8.3: the next Commit", y.Commit(), api.OK)
		isOver(t, "P8.1: another committed, behind "+what, x, 9, d)
		reads(t, "P8.3: the next", l, 0, full('y'), api.OK)
	}
}

// TestAborted: nobody ever sees what was aborted.
func TestAborted(t *testing.T) {
	l, d := made(t, 8, 6)
	y := txn.Begin(l)
	was := state(d)
	for count := range 7 {
		x := txn.Begin(l)
		for n := range count {
			lays(t, "P8.2", x, []api.Write{{N: n, Text: full('x')}})
		}
		d.Fall(1)
		x.Abort()
		d.Fall(0)
		x.Commit()
		if state(d) != was {
			t.Fatalf("P8.2: an Abort of %d blocks changed the disk", count)
		}
		isOver(t, "P8.2: aborted", x, 6, d)
		holds(t, "P8.2: aborted", l, old(6))
		holds(t, "P8.2: aborted: the other", y, old(6))
	}
	lays(t, "P8.4", y, writes("y1"))
	wants(t, "P8.3", y.Commit(), api.OK)
	crash(d, nil)
	holds(t, "P8.2: aborted, behind a crash", opens(t, "P8.2", d, 8), laid(old(6), writes("y1")))
}

// TestTwoUnderWay: two that write the same block, and what one reads of a block
// that the other has committed meanwhile.
func TestTwoUnderWay(t *testing.T) {
	l, _ := made(t, 8, 5)
	x, y := txn.Begin(l), txn.Begin(l)
	lays(t, "P8.4", x, writes("a0", "b1", "c2"))
	lays(t, "P8.4", y, writes("m1", "n3"))
	holds(t, "P8.2: the first", x, laid(old(5), writes("a0", "b1", "c2")))
	holds(t, "P8.2: the second", y, laid(old(5), writes("m1", "n3")))
	holds(t, "P8.2: the log", l, old(5))
	wants(t, "P8.3", x.Commit(), api.OK)
	dirty(t, "P8.4", y, 2)
	holds(t, "P8.3: the log", l, laid(old(5), writes("a0", "b1", "c2")))
	holds(t, "P8.2: the second, meanwhile", y, laid(old(5), writes("a0", "m1", "c2", "n3")))
	z := txn.Begin(l)
	holds(t, "P8.4: begun behind", z, laid(old(5), writes("a0", "b1", "c2")))
	wants(t, "P8.3", y.Commit(), api.OK)
	last := laid(old(5), writes("a0", "m1", "c2", "n3"))
	holds(t, "P8.3: the last one", l, last)
	holds(t, "P8.4: the third", z, last)
	lays(t, "P8.4", z, writes("z0", "z4"))
	if err := l.Commit(writes("l0", "l1", "l2")); err != api.OK {
		t.Fatalf("log's Commit: %d", err)
	}
	holds(t, "P8.2: what the log itself has", z, laid(old(5), writes("z0", "l1", "l2", "n3", "z4")))
	z.Abort()
	holds(t, "P8.2", l, laid(old(5), writes("l0", "l1", "l2", "n3")))
}

// TestThreeUnderWay: three that write the same blocks, and end in every order
// and in every way.
func TestThreeUnderWay(t *testing.T) {
	own := [][]api.Write{writes("a0", "a1", "a3"), writes("b1", "b2", "b3"), writes("c2", "c0", "c3", "c2")}
	orders := [][]int{{0, 1, 2}, {0, 2, 1}, {1, 0, 2}, {1, 2, 0}, {2, 0, 1}, {2, 1, 0}}
	for _, order := range orders {
		for mask := range 8 {
			what := fmt.Sprintf("in order %v, committed %b", order, mask)
			l, d := made(t, 8, 5)
			all := []*txn.Tx{txn.Begin(l), txn.Begin(l), txn.Begin(l)}
			for i := range 4 {
				for k := range all {
					if i < len(own[k]) {
						lays(t, what, all[k], own[k][i:i+1])
					}
				}
			}
			want := old(5)
			for at, k := range order {
				if mask>>k&1 == 1 {
					wants(t, "P8.3: "+what, all[k].Commit(), api.OK)
					want = laid(want, own[k])
				} else {
					all[k].Abort()
				}
				isOver(t, "P8.1: "+what, all[k], 5, d)
				holds(t, "P8.3: the log, "+what, l, want)
				for _, other := range order[at+1:] {
					dirty(t, "P8.4: "+what, all[other], 3)
					holds(t, "P8.2: the others, "+what, all[other], laid(want, own[other]))
				}
			}
			crash(d, nil)
			holds(t, "P8.3: behind a crash, "+what, opens(t, what, d, 8), want)
		}
	}
}

// TestTwoLogs: transactions with logs of two disks.
func TestTwoLogs(t *testing.T) {
	l, d := made(t, 8, 4)
	m, _ := made(t, 10, 7)
	x, y := txn.Begin(l), txn.Begin(m)
	lays(t, "P8.4", x, writes("x0", "x3"))
	lays(t, "P8.4", y, writes("y0", "y6"))
	wants(t, "P8.1", x.Write(6, full('x')), api.ErrArg)
	d.Crash(nil)
	holds(t, "P8.4: the other's power", y, laid(old(7), writes("y0", "y6")))
	wants(t, "P8.1", x.Commit(), api.ErrOff)
	wants(t, "P8.3", y.Commit(), api.OK)
	holds(t, "P8.3", m, laid(old(7), writes("y0", "y6")))
	d.On()
	holds(t, "P8.4", opens(t, "P8.4", d, 8), old(4))
}

// room is how many writes a log of so many sectors takes, found by asking one.
func room(t *testing.T, size int) int {
	t.Helper()
	for count := 1; ; count++ {
		d, _ := disk.New(size + count)
		l := opens(t, "room", d, size)
		var w []api.Write
		for n := range count {
			w = append(w, api.Write{N: n, Text: full('r')})
		}
		if err := l.Commit(w); err == api.ErrLog {
			return count - 1
		}
	}
}

// TestTooMany: as many blocks as go in the log, and one more, which changes none.
func TestTooMany(t *testing.T) {
	g := &texter{5}
	for _, size := range []int{4, 5, 8, 16, 40} {
		most := room(t, size)
		for _, count := range []int{most, most + 1, most + 7} {
			what := fmt.Sprintf("%d blocks, log of %d", count, size)
			l, d := made(t, size, most+10)
			x, y := txn.Begin(l), txn.Begin(l)
			want := old(most + 10)
			var w []api.Write
			for _, n := range g.mixed(most + 10)[:count] {
				w = append(w, api.Write{N: n, Text: g.text(512)})
			}
			lays(t, what, x, w)
			dirty(t, "P8.1: "+what, x, count)
			holds(t, "P8.2: "+what, x, laid(want, w))
			was := state(d)
			if count > most {
				d.Fall(1)
				wants(t, "P8.3: "+what, x.Commit(), api.ErrLog)
				if state(d) != was {
					t.Fatalf("P8.3: %s: a refused Commit changed the disk", what)
				}
				d.Fall(0)
			} else {
				wants(t, "P8.3: "+what, x.Commit(), api.OK)
				want = laid(want, w)
			}
			isOver(t, "P8.1: "+what, x, most+10, d)
			holds(t, "P8.3: the log, "+what, l, want)
			holds(t, "P8.3: the other, "+what, y, want)
			lays(t, what, y, writes("y0"))
			wants(t, "P8.3: the next, "+what, y.Commit(), api.OK)
			holds(t, "P8.3: the next, "+what, l, laid(want, writes("y0")))
		}
	}
}

// TestDead: with a log that is dead it reads its own alone, and its Commit
// answers as the log does.
func TestDead(t *testing.T) {
	l, d := made(t, 8, 5)
	x, u := txn.Begin(l), txn.Begin(l)
	lays(t, "P8.1", x, writes("a1"))
	d.Crash(nil)
	reads(t, "P8.1: off", u, 1, "", api.ErrOff) // so the log is dead
	d.On()
	y := txn.Begin(l)
	lays(t, "P8.1: dead", x, writes("b2"))
	lays(t, "P8.1: dead", y, writes("c3"))
	wants(t, "P8.1: dead", y.Write(5, full('c')), api.ErrArg)
	reads(t, "P8.2: dead", x, 1, full('a'), api.OK)
	reads(t, "P8.2: dead", x, 2, full('b'), api.OK)
	reads(t, "P8.2: dead", x, 3, "", api.ErrOff)
	reads(t, "P8.2: dead", x, 5, "", api.ErrOff)
	reads(t, "P8.2: dead", y, 3, full('c'), api.OK)
	reads(t, "P8.2: dead", y, 1, "", api.ErrOff)
	dirty(t, "P8.1: dead", x, 2)
	was := state(d)
	wants(t, "P8.1: dead", x.Commit(), api.ErrOff)
	wants(t, "P8.1: dead", y.Commit(), api.ErrOff)
	wants(t, "P8.1: dead", u.Commit(), api.OK)
	if state(d) != was {
		t.Error("P8.2: a dead log, and the disk was changed")
	}
	for _, one := range []*txn.Tx{x, y, u} {
		isOver(t, "P8.1: dead", one, 5, d)
	}
	holds(t, "P8.3: opened anew", opens(t, "P8.3", d, 8), old(5))
}

// keeps is which of the pending writes a crash may keep: every choice of a few,
// of more none, all, the halves, and each one alone and left out.
func keeps(pending int) [][]int {
	lists := [][]int{}
	if pending <= 4 {
		for mask := range 1 << pending {
			lists = append(lists, chosen(pending, func(i int) bool { return mask>>i&1 == 1 }))
		}
		return lists
	}
	lists = append(lists, nil, upTo(pending))
	lists = append(lists, chosen(pending, func(i int) bool { return i < pending/2 }))
	lists = append(lists, chosen(pending, func(i int) bool { return i >= pending/2 }))
	for k := range pending {
		lists = append(lists, []int{k}, chosen(pending, func(i int) bool { return i != k }))
	}
	return lists
}

func chosen(count int, is func(i int) bool) []int {
	var list []int
	for i := range count {
		if is(i) {
			list = append(list, i)
		}
	}
	return list
}

// TestPower: wherever the power goes in a Commit, the transaction is over, and
// behind the next Open all of it is there or nothing.
func TestPower(t *testing.T) {
	sets := [][]api.Write{
		writes("a0"), writes("a8"), writes("a3", "b0"), writes("d8", "c7", "b1", "a0", "e8"), writes("a0", "b1", "c2", "d3", "e4", "f5"),
	}
	for _, w := range sets {
		_, first := made(t, 8, 9)
		none, all := 0, 0
		for n := 1; ; n++ {
			d := first.Copy()
			l := opens(t, "P8.3", d, 8)
			x, other := txn.Begin(l), txn.Begin(l)
			lays(t, "P8.3", x, w)
			lays(t, "P8.3", other, writes("o5"))
			d.Fall(n)
			err := x.Commit()
			if err == api.OK {
				break
			}
			what := fmt.Sprintf("%d writes, Fall(%d)", len(w), n)
			wants(t, "P8.1: "+what, err, api.ErrOff)
			isOver(t, "P8.1: "+what, x, 9, d)
			reads(t, "P8.2: "+what, other, 5, full('o'), api.OK)
			wants(t, "P8.1: the other, "+what, other.Commit(), api.ErrOff)
			for _, kept := range keeps(d.Pending()) {
				c := d.Copy()
				crash(c, kept)
				m := opens(t, what, c, 8)
				want := old(9)
				if text, _ := m.Read(w[0].N); text != want[w[0].N] {
					want = laid(want, w)
					all++
				} else {
					none++
				}
				holds(t, fmt.Sprintf("P8.3: %s, kept %v", what, kept), m, want)
			}
		}
		if none == 0 || all == 0 {
			t.Errorf("P8.3: %d writes: none %d times, all %d times", len(w), none, all)
		}
	}
}

// TestRising: wherever the power goes, the disk is as behind log's Commit of the
// same blocks by rising numbers; so it is not, if they go in another order.
func TestRising(t *testing.T) {
	g := &texter{7}
	for _, blocks := range []int{2, 3, 7, 12, 60} {
		_, first := made(t, 64, blocks)
		for range 6 {
			order := g.mixed(blocks)
			if slices.IsSorted(order) {
				slices.Reverse(order)
			}
			var w []api.Write
			for _, n := range order {
				w = append(w, api.Write{N: n, Text: g.text(512)})
			}
			rising := slices.SortedFunc(slices.Values(w), func(a, b api.Write) int { return a.N - b.N })
			another := 0
			for n, off := 1, true; off; n++ {
				after := func(do func(l *log.Log) api.Errno) string {
					d := first.Copy()
					l := opens(t, "P8.1", d, 64)
					d.Fall(n)
					off = do(l) == api.ErrOff
					return state(d)
				}
				want := after(func(l *log.Log) api.Errno { return l.Commit(rising) })
				if after(func(l *log.Log) api.Errno { return l.Commit(w) }) != want {
					another++
				}
				got := after(func(l *log.Log) api.Errno {
					x := txn.Begin(l)
					lays(t, "P8.1", x, w)
					return x.Commit()
				})
				if got != want {
					t.Fatalf("P8.1: %d blocks, Fall(%d): not as by rising numbers", blocks, n)
				}
			}
			if another == 0 {
				t.Fatal("the order of writes is not to be seen on the disk")
			}
		}
	}
}

// TestAllBlocks: every block of a great disk.
func TestAllBlocks(t *testing.T) {
	g := &texter{3}
	d, _ := disk.New(8192)
	l := opens(t, "P8.1", d, 4200)
	x, y := txn.Begin(l), txn.Begin(l)
	want := make([]string, l.Blocks())
	for at, n := range g.mixed(l.Blocks()) {
		want[n] = g.text(512)
		lays(t, "P8.1", x, []api.Write{{N: n, Text: want[n]}})
		dirty(t, "P8.1", x, at+1)
	}
	holds(t, "P8.2", x, want)
	holds(t, "P8.2: the other", y, slices.Repeat([]string{full(0)}, len(want)))
	wants(t, "P8.3", x.Commit(), api.OK)
	holds(t, "P8.3", y, want)
	crash(d, nil)
	holds(t, "P8.3: behind a crash", opens(t, "P8.3", d, 4200), want)
}

// world is a disk with transactions under way, and what the chapter says of it.
type world struct {
	g      *texter
	d      *disk.Disk
	l      *log.Log
	size   int
	room   int
	blocks []string
	all    []*one
	falls  int
}

// one is a transaction and what it is to hold; gone: its log is dead for good.
type one struct {
	x       *txn.Tx
	written map[int]string
	over    bool
	gone    bool
}

func (w *world) number() int { return w.g.below(len(w.blocks)+3) - 1 }

func (w *world) has(n int) bool { return n >= 0 && n < len(w.blocks) }

func (w *world) begin() {
	if len(w.all) < 6 {
		w.all = append(w.all, &one{x: txn.Begin(w.l), written: map[int]string{}})
		return
	}
	w.all[w.g.below(6)] = &one{x: txn.Begin(w.l), written: map[int]string{}}
}

func (w *world) write(t *testing.T, what string, o *one) {
	t.Helper()
	n, text := w.number(), w.g.text(512)
	switch w.g.below(12) {
	case 0:
		text = text[1:]
	case 1:
		text += "x"
	}
	want := api.OK
	switch {
	case o.over:
		want = api.ErrState
	case !w.has(n) || len(text) != 512:
		want = api.ErrArg
	default:
		o.written[n] = text
	}
	wants(t, "P8.1: "+what, o.x.Write(n, text), want)
}

func (w *world) read(t *testing.T, what string, o *one) {
	t.Helper()
	n := w.number()
	own, has := o.written[n]
	switch {
	case o.over:
		reads(t, "P8.1: "+what, o.x, n, "", api.ErrState)
	case has:
		reads(t, "P8.2: "+what, o.x, n, own, api.OK)
	case o.gone:
		reads(t, "P8.2: "+what, o.x, n, "", api.ErrOff)
	case !w.has(n):
		reads(t, "P8.1: "+what, o.x, n, "", api.ErrArg)
	default:
		reads(t, "P8.2: "+what, o.x, n, w.blocks[n], api.OK)
	}
}

// commit commits, and now and then the power goes in it.
func (w *world) commit(t *testing.T, what string, o *one) {
	t.Helper()
	if w.g.below(4) == 0 {
		w.d.Fall(1 + w.g.below(3+len(o.written)*2))
	}
	err := o.x.Commit()
	w.d.Fall(0)
	after := w.blocks
	for n, text := range o.written {
		after = laid(after, []api.Write{{N: n, Text: text}})
	}
	fell := err == api.ErrOff && !o.gone && len(o.written) > 0 && len(o.written) <= w.room && w.d.Off()
	switch {
	case o.over:
		wants(t, "P8.1: "+what, err, api.ErrState)
	case len(o.written) == 0:
		wants(t, "P8.1: "+what, err, api.OK)
	case o.gone:
		wants(t, "P8.1: "+what, err, api.ErrOff)
	case len(o.written) > w.room:
		wants(t, "P8.3: "+what, err, api.ErrLog)
	case !fell:
		wants(t, "P8.3: "+what, err, api.OK)
		w.blocks = after
	}
	o.over = true
	clear(o.written)
	if fell {
		w.falls++
		w.lose(t, what, after)
	}
}

// lose crashes and opens anew, and finds the blocks as they were or as the commit
// under way makes them; transactions of the dead log go on beside the new ones.
func (w *world) lose(t *testing.T, what string, after []string) {
	t.Helper()
	for _, o := range w.all {
		o.gone = true
	}
	pending := w.d.Pending()
	w.d.Crash(chosen(pending, func(i int) bool { return w.g.below(2) == 0 }))
	w.d.On()
	w.l = opens(t, what, w.d, w.size)
	var got []string
	for n := range w.blocks {
		text, _ := w.l.Read(n)
		got = append(got, text)
	}
	if !slices.Equal(got, w.blocks) && !slices.Equal(got, after) {
		t.Fatalf("P8.3: %s: neither all nor nothing", what)
	}
	w.blocks = got
}

// step is one call, and behind it a look at what all of them tell of Dirty and
// Blocks, and at the log.
func (w *world) step(t *testing.T, what string) {
	t.Helper()
	o := w.all[w.g.below(len(w.all))]
	switch k := w.g.below(24); {
	case k < 10:
		w.write(t, what, o)
	case k < 18:
		w.read(t, what, o)
	case k < 19:
		w.commit(t, what, o)
	case k < 20:
		o.x.Abort()
		o.over = true
		clear(o.written)
	case k < 21:
		n := w.g.below(len(w.blocks))
		text := w.g.text(512)
		wants(t, "log's Commit", w.l.Commit([]api.Write{{N: n, Text: text}}), api.OK)
		w.blocks = laid(w.blocks, []api.Write{{N: n, Text: text}})
	default:
		w.begin()
	}
	for _, o := range w.all {
		dirty(t, "P8.1: "+what, o.x, len(o.written))
		if o.x.Blocks() != len(w.blocks) {
			t.Fatalf("P8.1: %s: Blocks: %d", what, o.x.Blocks())
		}
	}
}

// walk is many calls in an order that looks like chance; it tells how often the
// power went.
func walk(t *testing.T, seed uint64, steps int) int {
	t.Helper()
	g := &texter{seed}
	size, blocks := 4+g.below(6), 1+g.below(12)
	w := &world{g: g, size: size, room: size - 2, blocks: old(blocks)}
	w.l, w.d = made(t, size, blocks)
	w.begin()
	for i := range steps {
		w.step(t, fmt.Sprintf("walk %d, step %d", seed, i))
	}
	holds(t, fmt.Sprintf("P8.3: the end of walk %d", seed), w.l, w.blocks)
	return w.falls
}

func TestWalks(t *testing.T) {
	falls := 0
	for seed := range 400 {
		falls += walk(t, uint64(seed), 300)
	}
	if falls < 300 {
		t.Errorf("the power went in %d commits alone", falls)
	}
}

// TestTwice: the same calls give the same disk.
func TestTwice(t *testing.T) {
	all := func() string {
		g := &texter{11}
		l, d := made(t, 20, 30)
		for i := range 20 {
			x := txn.Begin(l)
			for _, n := range g.mixed(30)[:9] {
				lays(t, "R4", x, []api.Write{{N: n, Text: g.text(512)}})
			}
			if i == 19 {
				d.Fall(16)
			}
			x.Commit()
		}
		return state(d)
	}
	want := all()
	for range 20 {
		if all() != want {
			t.Fatal("R4: the same calls, and two disks")
		}
	}
}

// TestBeside: transactions of logs that are used beside one another give what
// they give alone.
func TestBeside(t *testing.T) {
	l, d := made(t, 10, 20)
	x := txn.Begin(l)
	lays(t, "P8.4", x, writes("x1"))
	t.Run("all", func(t *testing.T) {
		for i := range 8 {
			c := d.Copy()
			t.Run(strconv.Itoa(i), func(t *testing.T) {
				t.Parallel()
				walk(t, uint64(1000+i), 300)
				m := opens(t, "P8.4", c, 10)
				y := txn.Begin(m)
				w := writes("bcdefghi"[i:i+1]+"0", "y19")
				lays(t, "P8.4: beside", y, w)
				wants(t, "P8.4: beside", y.Commit(), api.OK)
				holds(t, "P8.4: beside", m, laid(old(20), w))
			})
		}
	})
	holds(t, "P8.4: the first", x, laid(old(20), writes("x1")))
}

// TestHandedIn: a text that is handed in is neither changed nor kept.
func TestHandedIn(t *testing.T) {
	l, d := made(t, 8, 5)
	x := txn.Begin(l)
	b := []byte(full('t'))
	wants(t, "R3", x.Write(2, unsafe.String(&b[0], len(b))), api.OK)
	if string(b) != full('t') {
		t.Error("R3: Write changed its text")
	}
	copy(b, full('u'))
	reads(t, "R3: kept", x, 2, full('t'), api.OK)
	wants(t, "R3", x.Write(3, unsafe.String(&b[0], len(b))), api.OK)
	clear(b)
	wants(t, "R3", x.Commit(), api.OK)
	holds(t, "R3: kept", l, laid(old(5), writes("t2", "u3")))
	crash(d, nil)
	holds(t, "R3: kept", opens(t, "R3", d, 8), laid(old(5), writes("t2", "u3")))
}

// TestNewMemory: answers of Read share nothing with one another, nor with what
// was handed in, and stay as they are.
func TestNewMemory(t *testing.T) {
	l, _ := made(t, 8, 4)
	x := txn.Begin(l)
	w := writes("a0", "b2")
	lays(t, "R3", x, w)
	seen := map[*byte]string{}
	for _, one := range w {
		seen[unsafe.StringData(one.Text)] = one.Text
	}
	var all []string // so that none of them is let go of
	for range 3 {
		for n := range 4 {
			text, err := x.Read(n)
			wants(t, "R3", err, api.OK)
			if _, ok := seen[unsafe.StringData(text)]; ok {
				t.Fatal("R3: an answer is not new")
			}
			seen[unsafe.StringData(text)] = strings.Clone(text)
			all = append(all, text)
		}
	}
	was := slices.Clone(all)
	for i := range was {
		was[i] = strings.Clone(was[i])
	}
	lays(t, "R3", x, writes("c0", "d1", "e2"))
	wants(t, "R3", x.Commit(), api.OK)
	if !slices.Equal(all, was) {
		t.Error("R3: an answer was changed")
	}
	for at := range maps.Keys(seen) {
		if unsafe.String(at, 512) != seen[at] {
			t.Error("R3: a text was changed")
		}
	}
}
