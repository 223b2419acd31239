package space_test

import (
	"fmt"
	"math"
	"slices"
	"strconv"
	"strings"
	"testing"
	"unsafe"

	"coffer/api"
	"coffer/disk"
	"coffer/log"
	"coffer/space"
	"coffer/txn"
)

// texter tells numbers and texts that look like chance and are the same each time.
type texter struct{ x uint64 }

func (t *texter) number() uint64 {
	t.x += 0x9e3779b97f4a7c15
	z := t.x
	z = (z ^ z>>30) * 0xbf58476d1ce4e5b9
	z = (z ^ z>>27) * 0x94d049bb133111eb
	return z ^ z>>31
}

func (t *texter) below(n int) int { return int(t.number() % uint64(n)) }

// text has n bytes of all kinds.
func (t *texter) text(n int) string {
	b := make([]byte, n)
	for i := range b {
		b[i] = byte(t.number())
	}
	return string(b)
}

// mixed is a list in no order.
func (t *texter) mixed(list []int) []int {
	list = slices.Clone(list)
	for i := range list {
		k := t.below(i + 1)
		list[i], list[k] = list[k], list[i]
	}
	return list
}

// full is a block of one letter.
func full(c byte) string { return strings.Repeat(string([]byte{c}), 512) }

const logSize = 8

func opens(t *testing.T, what string, d *disk.Disk) *log.Log {
	t.Helper()
	l, err := log.Open(d, logSize)
	if err != api.OK {
		t.Fatalf("%s: log.Open of %d sectors: %d", what, d.Sectors(), err)
	}
	return l
}

// blank is a log of so many blocks of zeros, and its disk.
func blank(t *testing.T, blocks int) (*log.Log, *disk.Disk) {
	t.Helper()
	d, err := disk.New(logSize + blocks)
	if err != api.OK {
		t.Fatalf("disk.New(%d): %d", logSize+blocks, err)
	}
	return opens(t, "a new disk", d), d
}

// marked is one whose blocks stand full of letters, which are no bitmap.
func marked(t *testing.T, blocks int) (*log.Log, *disk.Disk) {
	t.Helper()
	l, d := blank(t, blocks)
	for n := range blocks {
		wants(t, "log's Commit", l.Commit([]api.Write{{N: n, Text: full(letter(n))}}), api.OK)
	}
	return l, d
}

// letter is what marked lays in a block.
func letter(n int) byte { return byte('A' + n%26) }

func wants(t *testing.T, what string, got, want api.Errno) {
	t.Helper()
	if got != want {
		t.Fatalf("%s: %d, want %d", what, got, want)
	}
}

func makes(t *testing.T, what string, x *txn.Tx, first int) *space.Space {
	t.Helper()
	s, err := space.Make(x, first)
	if s == nil || err != api.OK || s.Tx() != x {
		t.Fatalf("%s: Make(%d) of %d blocks: %v, %d", what, first, x.Blocks(), s, err)
	}
	return s
}

func ats(t *testing.T, what string, x *txn.Tx, first int) *space.Space {
	t.Helper()
	s, err := space.At(x, first)
	if s == nil || err != api.OK || s.Tx() != x {
		t.Fatalf("%s: At(%d) of %d blocks: %v, %d", what, first, x.Blocks(), s, err)
	}
	return s
}

// bothRefuse: do Make and At answer this error, and nothing beside?
func bothRefuse(t *testing.T, what string, x *txn.Tx, first int, want api.Errno) {
	t.Helper()
	dirty := x.Dirty()
	for name, lay := range map[string]func(*txn.Tx, int) (*space.Space, api.Errno){"Make": space.Make, "At": space.At} {
		if s, err := lay(x, first); s != nil || err != want || x.Dirty() != dirty {
			t.Fatalf("%s: %s(%d) of %d blocks: %v, %d, want %d", what, name, first, x.Blocks(), s, err, want)
		}
	}
}

func left(t *testing.T, what string, s *space.Space, want int) {
	t.Helper()
	if got := s.Left(); got != want {
		t.Fatalf("%s: Left: %d, want %d", what, got, want)
	}
}

func used(t *testing.T, what string, s *space.Space, n int, want bool) {
	t.Helper()
	if s.Used(n) != want {
		t.Fatalf("%s: Used(%d): %v", what, n, !want)
	}
}

// allocs: does it take so many, as the chapter says?
func allocs(t *testing.T, what string, s *space.Space, n int) []int {
	t.Helper()
	was := inUse(s)
	got, err := s.Alloc(n)
	if err != api.OK || len(got) != n {
		t.Fatalf("%s: Alloc(%d): %v, %d", what, n, got, err)
	}
	for i, k := range got {
		if k < 0 || k >= len(was) || was[k] || !s.Used(k) || i > 0 && k <= got[i-1] {
			t.Fatalf("%s: Alloc(%d): %v", what, n, got)
		}
	}
	return got
}

func refuses(t *testing.T, what string, s *space.Space, n int, want api.Errno) {
	t.Helper()
	if got, err := s.Alloc(n); got != nil || err != want {
		t.Fatalf("%s: Alloc(%d): %v, %d, want %d", what, n, got, err, want)
	}
}

// inUse is what Used tells of every block.
func inUse(s *space.Space) []bool {
	all := make([]bool, s.Tx().Blocks())
	for n := range all {
		all[n] = s.Used(n)
	}
	return all
}

// says: is this what it says of every block, and is Left the others?
func says(t *testing.T, what string, s *space.Space, want []bool) {
	t.Helper()
	if len(want) != s.Tx().Blocks() {
		t.Fatalf("%s: Blocks: %d, want %d", what, s.Tx().Blocks(), len(want))
	}
	free := 0
	for n := range want {
		used(t, what, s, n, want[n])
		if !want[n] {
			free++
		}
	}
	left(t, what, s, free)
}

// fresh is what a space says in which all is free.
func fresh(blocks, first int) []bool {
	all := make([]bool, blocks)
	for n := range first + pages(blocks) {
		all[n] = true
	}
	return all
}

// pages is how many blocks the bitmap has, as the chapter says it.
func pages(blocks int) int {
	count := 0
	for begun := 0; begun < blocks; begun += 4096 {
		count++
	}
	return count
}

// with is what a space says when these are in use too, or free.
func with(all []bool, l []int, use bool) []bool {
	all = slices.Clone(all)
	for _, n := range l {
		all[n] = use
	}
	return all
}

// from is the numbers from one on, below another.
func from(n, to int) []int {
	var list []int
	for ; n < to; n++ {
		list = append(list, n)
	}
	return list
}

// texts is all blocks as a transaction sees them.
func texts(t *testing.T, x *txn.Tx) []string {
	t.Helper()
	var all []string
	for n := range x.Blocks() {
		text, err := x.Read(n)
		wants(t, "txn's Read", err, api.OK)
		all = append(all, text)
	}
	return all
}

// state is all that can be told of a disk: what is seen, what is safe, how many
// writes are pending, and whether it is off.
func state(d *disk.Disk) string {
	seen, safe := d.Copy(), d.Copy()
	seen.Crash(from(0, seen.Pending()))
	safe.Crash(nil)
	var b strings.Builder
	for _, c := range []*disk.Disk{seen, safe} {
		c.On()
		for n := range c.Sectors() {
			text, err := c.Read(n)
			b.WriteString(strconv.Itoa(int(err)) + text)
		}
	}
	return b.String() + strconv.Itoa(d.Pending()) + strconv.FormatBool(d.Off())
}

// crash takes the power and gives it back.
func crash(d *disk.Disk, kept []int) {
	d.Crash(kept)
	d.On()
}

// isOver: does every call answer as on a space whose transaction is over?
func isOver(t *testing.T, what string, s *space.Space) {
	t.Helper()
	x := s.Tx()
	for _, n := range []int{math.MinInt, -1, 0, 1, 2, x.Blocks() - 1, x.Blocks(), math.MaxInt} {
		refuses(t, what, s, n, api.ErrState)
		wants(t, what+": Free", s.Free([]int{n}), api.ErrState)
		wants(t, what+": Free of one twice", s.Free([]int{n, n}), api.ErrState)
		used(t, what, s, n, false)
		bothRefuse(t, what, x, n, api.ErrState)
	}
	wants(t, what+": Free of none", s.Free(nil), api.ErrState)
	wants(t, what+": Free of none", s.Free([]int{}), api.ErrState)
	left(t, what, s, 0)
	if s.Tx() != x || x.Dirty() != 0 {
		t.Fatalf("%s: Tx", what)
	}
}

func TestExamples(t *testing.T) {
	l, _ := blank(t, 100)
	x := txn.Begin(l)
	s := makes(t, "P9.1", x, 3)
	left(t, "P9.1", s, 96)
	for n, want := range map[int]bool{0: true, 3: true, 4: false, 100: false, -1: false} {
		used(t, "P9.1", s, n, want)
	}
	pair := allocs(t, "P9.2", s, 2)
	if pair[0] < 4 || pair[1] > 99 {
		t.Errorf("P9.2: Alloc(2): %v", pair)
	}
	left(t, "P9.2", s, 94)

	wants(t, "P9.2: Free", s.Free(pair), api.OK)
	left(t, "P9.2", s, 96)
	wants(t, "P9.1: Free again", s.Free(pair), api.ErrArg)
	for _, n := range []int{3, 0, 100} {
		wants(t, "P9.1: Free", s.Free([]int{n}), api.ErrArg)
	}
	refuses(t, "P9.1", s, 97, api.ErrSpace)
	left(t, "P9.1", s, 96)
	refuses(t, "P9.1", s, -1, api.ErrArg)

	a := allocs(t, "P9.2", s, 1)
	wants(t, "P9.4: Commit", x.Commit(), api.OK)
	left(t, "P9.1: over", s, 0)
	refuses(t, "P9.1: over", s, 1, api.ErrState)
	u := txn.Begin(l)
	v := ats(t, "P9.4", u, 3)
	left(t, "P9.4", v, 95)
	used(t, "P9.4", v, a[0], true)
	allocs(t, "P9.2", v, 5)
	u.Abort()
	left(t, "P9.4: aborted", ats(t, "P9.4", txn.Begin(l), 3), 95)

	x = txn.Begin(l)
	bothRefuse(t, "P9.1", x, 100, api.ErrSpace)
	bothRefuse(t, "P9.1", x, -1, api.ErrArg)
	l, _ = blank(t, 99)
	bothRefuse(t, "P9.1", txn.Begin(l), 99, api.ErrSpace)
}

// TestFirst: which firsts are taken, of how many blocks, and what is kept back.
func TestFirst(t *testing.T) {
	for _, blocks := range []int{1, 2, 3, 7, 8, 9, 100, 4095, 4096, 4097, 4098, 8184} {
		l, _ := blank(t, blocks)
		most := blocks - pages(blocks)
		for _, first := range []int{math.MinInt, math.MinInt + 1, -1 << 32, -blocks, -2, -1} {
			bothRefuse(t, "P9.1", txn.Begin(l), first, api.ErrArg)
		}
		for _, first := range []int{most + 1, most + 2, blocks, blocks + 1, 8192, 1 << 31, 1 << 32, 1<<32 + 1, math.MaxInt - 1, math.MaxInt} {
			bothRefuse(t, "P9.1", txn.Begin(l), max(first, most+1), api.ErrSpace)
		}
		for _, first := range []int{0, 1, most / 2, most - 1, most} {
			first = max(0, min(first, most))
			what := fmt.Sprintf("P9.1: Make(%d) of %d blocks", first, blocks)
			x := txn.Begin(l)
			s := makes(t, what, x, first)
			if x.Dirty() != pages(blocks) {
				t.Fatalf("%s wrote %d blocks", what, x.Dirty())
			}
			says(t, what, s, fresh(blocks, first))
			left(t, what, s, most-first)
			for _, n := range []int{math.MinInt, -blocks, -1, blocks, blocks + 1, 4096 * pages(blocks), 1 << 32, math.MaxInt} {
				used(t, what, s, n, false)
			}
			says(t, what+", At", ats(t, what, x, first), fresh(blocks, first))
		}
	}
}

// TestPages: the bitmap has one block more where 4097 blocks are.
func TestPages(t *testing.T) {
	for blocks, want := range map[int]int{1: 1, 4095: 1, 4096: 1, 4097: 2, 8184: 2} {
		l, _ := blank(t, blocks)
		x := txn.Begin(l)
		s := makes(t, "P9.1", x, 0)
		left(t, fmt.Sprintf("P9.1: %d blocks", blocks), s, blocks-want)
		used(t, "P9.1", s, want-1, true)
		used(t, "P9.1", s, want, false)
		bothRefuse(t, "P9.1", x, blocks-want+1, api.ErrSpace)
		left(t, "P9.1", makes(t, "P9.1", x, blocks-want), 0)
	}
}

// TestAllocArguments: of none, of all that is left, of one more, and of wild numbers.
func TestAllocArguments(t *testing.T) {
	for _, blocks := range []int{2, 3, 50, 4096, 4097, 4200} {
		for _, taken := range []int{0, 1, blocks / 2, blocks - pages(blocks)} {
			taken = min(taken, blocks-pages(blocks))
			what := fmt.Sprintf("%d of %d blocks taken", taken, blocks)
			l, _ := blank(t, blocks)
			x := txn.Begin(l)
			s := makes(t, what, x, 0)
			want := with(fresh(blocks, 0), allocs(t, what, s, taken), true)
			rest := blocks - pages(blocks) - taken
			for _, n := range []int{rest + 1, rest + 2, blocks + 1, 1 << 20, 1 << 32, 1<<32 + 1, 1 << 62, math.MaxInt - 1, math.MaxInt} {
				refuses(t, "P9.1: "+what, s, max(n, rest+1), api.ErrSpace)
			}
			for _, n := range []int{math.MinInt, math.MinInt + 1, -1 << 32, -blocks, -2, -1} {
				refuses(t, "P9.1: "+what, s, n, api.ErrArg)
			}
			allocs(t, "P9.1: "+what, s, 0)
			says(t, "P9.1: nothing is changed, "+what, s, want)
			last := allocs(t, "P9.3: "+what, s, rest)
			says(t, "P9.3: "+what, s, slices.Repeat([]bool{true}, blocks))
			refuses(t, "P9.3: "+what, s, 1, api.ErrSpace)
			allocs(t, "P9.3: "+what, s, 0)
			wants(t, "P9.2: Free, "+what, s.Free(last), api.OK)
			says(t, "P9.2: as it was, "+what, s, want)
		}
	}
}

// TestWhole: Allocs till nothing is left tell each block that isn't kept back once.
func TestWhole(t *testing.T) {
	g := &texter{2}
	for _, blocks := range []int{1, 2, 9, 100, 4095, 4096, 4097, 8184} {
		for _, first := range []int{0, 3, blocks - pages(blocks)} {
			first = min(first, blocks-pages(blocks))
			what := fmt.Sprintf("P9.3: first %d of %d blocks", first, blocks)
			l, _ := blank(t, blocks)
			s := makes(t, what, txn.Begin(l), first)
			var all []int
			for s.Left() > 0 {
				was := s.Left()
				n := min(was, 1+g.below(1+blocks/10))
				got, err := s.Alloc(n)
				if err != api.OK || len(got) != n || !slices.IsSorted(got) {
					t.Fatalf("%s: Alloc(%d): %v, %d", what, n, got, err)
				}
				left(t, what, s, was-n)
				all = append(all, got...)
			}
			slices.Sort(all)
			if !slices.Equal(all, from(first+pages(blocks), blocks)) {
				t.Fatalf("%s: %v", what, all)
			}
			refuses(t, what, s, 1, api.ErrSpace)
			allocs(t, what, s, 0)
			says(t, what, s, slices.Repeat([]bool{true}, blocks))
		}
	}
}

// TestFreeArguments: one wrong block, wherever it stands in the list, and none is freed.
func TestFreeArguments(t *testing.T) {
	for _, blocks := range []int{60, 4096, 4200} {
		const first = 5
		l, _ := blank(t, blocks)
		x := txn.Begin(l)
		s := makes(t, "P9.1", x, first)
		begin := first + pages(blocks)
		allocs(t, "P9.1", s, blocks-begin)
		open := []int{begin + 1, begin + 20, blocks - 2} // the free ones
		wants(t, "P9.1: Free", s.Free(open), api.OK)
		want := with(slices.Repeat([]bool{true}, blocks), open, false)
		says(t, "P9.1", s, want)
		before := texts(t, x)
		good := []int{begin, begin + 2, begin + 7, begin + 8, begin + 30, blocks - 3, blocks - 1}
		wrong := []int{math.MinInt, -1 << 32, -blocks, -2, -1, 0, 1, first - 1, first, begin - 1, blocks, blocks + 1, 4096 * pages(blocks), 8192, 1 << 32, 1<<32 + begin, math.MaxInt}
		wrong = append(wrong, open...)
		wrong = append(wrong, good...) // which then stand twice
		for _, n := range wrong {
			for at := range len(good) + 1 {
				list := slices.Insert(slices.Clone(good), at, n)
				what := fmt.Sprintf("P9.1: Free(%v) of %d blocks", list, blocks)
				wants(t, what, s.Free(list), api.ErrArg)
			}
			if !slices.Contains(good, n) {
				wants(t, "P9.1: Free of it alone", s.Free([]int{n}), api.ErrArg)
			}
			wants(t, "P9.1: Free of it twice", s.Free([]int{n, n}), api.ErrArg)
		}
		wants(t, "P9.1: Free of none", s.Free(nil), api.OK)
		wants(t, "P9.1: Free of none", s.Free([]int{}), api.OK)
		if !slices.Equal(texts(t, x), before) {
			t.Fatal("P9.1: a Free that was refused changed a block")
		}
		says(t, "P9.1: none is freed", s, want)
		slices.Reverse(good)
		wants(t, "P9.1: Free, falling", s.Free(good), api.OK)
		says(t, "P9.2", s, with(want, good, false))
		wants(t, "P9.1: Free again", s.Free(good), api.ErrArg)
	}
}

// TestFreeMany: a list longer than there are blocks, and all blocks in no order.
func TestFreeMany(t *testing.T) {
	g := &texter{4}
	for _, blocks := range []int{40, 4096, 4300} {
		l, _ := blank(t, blocks)
		s := makes(t, "P9.1", txn.Begin(l), 2)
		all := allocs(t, "P9.3", s, s.Left())
		list := g.mixed(all)
		wants(t, "P9.1: Free of all and one more", s.Free(append(slices.Clone(list), list[7])), api.ErrArg)
		wants(t, "P9.1: Free of all twice", s.Free(slices.Repeat(list, 2)), api.ErrArg)
		wants(t, "P9.1: Free of one often", s.Free(slices.Repeat(list[:1], 1<<16)), api.ErrArg)
		left(t, "P9.1", s, 0)
		wants(t, "P9.1: Free of all", s.Free(list), api.OK)
		says(t, "P9.2", s, fresh(blocks, 2))
	}
}

// TestEachAlone: every block freed and taken again alone, beside the others as
// they are.
func TestEachAlone(t *testing.T) {
	for _, blocks := range []int{30, 4100} {
		l, _ := blank(t, blocks)
		s := makes(t, "P9.2", txn.Begin(l), 1)
		for _, n := range allocs(t, "P9.3", s, s.Left()) {
			wants(t, "P9.2: Free", s.Free([]int{n}), api.OK)
			left(t, "P9.2", s, 1)
			used(t, "P9.2", s, n, false)
			for near := max(0, n-9); near < min(blocks, n+10); near++ {
				used(t, "P9.2", s, near, near != n)
			}
			if got, err := s.Alloc(1); err != api.OK || !slices.Equal(got, []int{n}) {
				t.Fatalf("P9.2: the one that is left, %d: %v, %d", n, got, err)
			}
		}
		left(t, "P9.2", s, 0)
	}
}

// TestOver: whatever ended the transaction, every call tells so first.
func TestOver(t *testing.T) {
	ends := map[string]func(x *txn.Tx, d *disk.Disk){
		"a Commit":                  func(x *txn.Tx, d *disk.Disk) { x.Commit() },
		"an Abort":                  func(x *txn.Tx, d *disk.Disk) { x.Abort() },
		"a Commit that is ErrLog":   func(x *txn.Tx, d *disk.Disk) { tooMany(x); x.Commit() },
		"a Commit without power":    func(x *txn.Tx, d *disk.Disk) { d.Crash(nil); x.Commit() },
		"a Commit whose power goes": func(x *txn.Tx, d *disk.Disk) { d.Fall(2); x.Commit() },
		"an Abort without power":    func(x *txn.Tx, d *disk.Disk) { x.Abort(); d.Crash(nil) },
	}
	for what, end := range ends {
		for _, blocks := range []int{20, 4097} {
			l, d := blank(t, blocks)
			x := txn.Begin(l)
			s := makes(t, what, x, 2)
			v := ats(t, what, x, 3)
			allocs(t, what, s, 5)
			end(x, d)
			was := state(d)
			for _, one := range []*space.Space{s, v} {
				isOver(t, "P9.1: behind "+what, one)
			}
			if state(d) != was {
				t.Fatalf("P9.1: behind %s a call changed the disk", what)
			}
			if d.Off() {
				crash(d, nil)
				l = opens(t, what, d)
			}
			y := txn.Begin(l)
			makes(t, what, y, 2)
			isOver(t, "P9.1: beside another, behind "+what, s)
			wants(t, "P9.4: Commit", y.Commit(), api.OK)
			isOver(t, "P9.1: behind another, behind "+what, s)
		}
	}
}

// tooMany writes more blocks than go in the log.
func tooMany(x *txn.Tx) {
	for n := range 2 * logSize {
		x.Write(n, full('m'))
	}
}

// TestCommit: At says what it said, in every later transaction, opened anew too.
func TestCommit(t *testing.T) {
	for _, blocks := range []int{30, 4096, 4097, 5000} {
		l, d := blank(t, blocks)
		x := txn.Begin(l)
		s := makes(t, "P9.4", x, 4)
		taken := allocs(t, "P9.4", s, blocks/2)
		wants(t, "P9.4: Free", s.Free(taken[1:4]), api.OK)
		want := with(with(fresh(blocks, 4), taken, true), taken[1:4], false)
		says(t, "P9.4", s, want)
		says(t, "P9.4: nobody else sees it", ats(t, "P9.4", txn.Begin(l), 4), fresh(blocks, 4))
		wants(t, "P9.4: Commit", x.Commit(), api.OK)
		for range 2 {
			y := txn.Begin(l)
			v := ats(t, "P9.4", y, 4)
			says(t, "P9.4: behind a Commit", v, want)
			more := allocs(t, "P9.4", v, 3)
			wants(t, "P9.4: Free", v.Free(taken[5:7]), api.OK)
			says(t, "P9.4: in it", v, with(with(want, more, true), taken[5:7], false))
			y.Abort()
			says(t, "P9.4: behind an Abort", ats(t, "P9.4", txn.Begin(l), 4), want)
			crash(d, nil)
			l = opens(t, "P9.4", d)
			says(t, "P9.4: opened anew", ats(t, "P9.4", txn.Begin(l), 4), want)
		}
		y := txn.Begin(l)
		makes(t, "P9.4", y, 4)
		y.Abort()
		says(t, "P9.4: a Make that was aborted", ats(t, "P9.4", txn.Begin(l), 4), want)
		y = txn.Begin(l)
		makes(t, "P9.4", y, 4)
		wants(t, "P9.4: Commit", y.Commit(), api.OK)
		says(t, "P9.4: made anew", ats(t, "P9.4", txn.Begin(l), 4), fresh(blocks, 4))
	}
}

// TestSameTransaction: nothing is kept beside the blocks, so that two spaces of
// one transaction at one place say the same.
func TestSameTransaction(t *testing.T) {
	l, _ := blank(t, 4500)
	x := txn.Begin(l)
	s := makes(t, "P9.1", x, 3)
	v := ats(t, "P9.1", x, 3)
	want := fresh(4500, 3)
	for i := range 4 {
		a := allocs(t, "P9.2", s, 700)
		says(t, "P9.1: the other", v, with(want, a, true))
		b := allocs(t, "P9.2", v, 200+i)
		wants(t, "P9.2: Free", v.Free(a), api.OK)
		wants(t, "P9.1: Free again", s.Free(a), api.ErrArg)
		want = with(want, b, true)
		says(t, "P9.1: the first", s, want)
	}
	makes(t, "P9.1", x, 3)
	says(t, "P9.1: made anew", s, fresh(4500, 3))
}

// TestTwoPlaces: spaces at two places of one log.
func TestTwoPlaces(t *testing.T) {
	l, _ := blank(t, 4200)
	x := txn.Begin(l)
	s, v := makes(t, "P9.1", x, 0), makes(t, "P9.1", x, 50)
	a := allocs(t, "P9.2", v, 400)
	says(t, "P9.1", s, fresh(4200, 0))
	says(t, "P9.1", v, with(fresh(4200, 50), a, true))
	wants(t, "P9.1: Free of the other's", s.Free(a[:1]), api.ErrArg)
	wants(t, "P9.4: Commit", x.Commit(), api.OK)
	says(t, "P9.4", ats(t, "P9.4", txn.Begin(l), 50), with(fresh(4200, 50), a, true))
}

// keeps is which of the pending writes a crash may keep: every choice of a few,
// of more none, all, the halves, and each one alone and left out.
func keeps(pending int) [][]int {
	lists := [][]int{}
	if pending <= 4 {
		for mask := range 1 << pending {
			lists = append(lists, chosen(pending, func(i int) bool { return mask>>i&1 == 1 }))
		}
		return lists
	}
	lists = append(lists, nil, from(0, pending), from(0, pending/2), from(pending/2, pending))
	for k := range pending {
		lists = append(lists, []int{k}, chosen(pending, func(i int) bool { return i != k }))
	}
	return lists
}

func chosen(count int, is func(i int) bool) []int {
	var list []int
	for i := range count {
		if is(i) {
			list = append(list, i)
		}
	}
	return list
}

// TestPower: wherever the power goes in a Commit, At says what it said ahead of
// the transaction, or what it said in it, whole.
func TestPower(t *testing.T) {
	for _, blocks := range []int{40, 4096, 4110} {
		l, laid := blank(t, blocks)
		x := txn.Begin(l)
		s := makes(t, "P9.4", x, 2)
		taken := allocs(t, "P9.4", s, s.Left()-9)
		old := inUse(s)
		wants(t, "P9.4: Commit", x.Commit(), api.OK)
		none, all := 0, 0
		for n := 1; ; n++ {
			d := laid.Copy()
			x := txn.Begin(opens(t, "P9.4", d))
			s := ats(t, "P9.4", x, 2)
			allocs(t, "P9.4", s, 6)
			wants(t, "P9.4: Free", s.Free([]int{taken[0], taken[3], taken[len(taken)-2]}), api.OK)
			allocs(t, "P9.4", s, 1)
			now := inUse(s)
			d.Fall(n)
			err := x.Commit()
			if err == api.OK {
				break
			}
			what := fmt.Sprintf("P9.4: %d blocks, Fall(%d)", blocks, n)
			wants(t, what, err, api.ErrOff)
			isOver(t, what, s)
			for _, kept := range keeps(d.Pending()) {
				c := d.Copy()
				crash(c, kept)
				v := ats(t, what, txn.Begin(opens(t, what, c)), 2)
				want := old
				if !slices.Equal(inUse(v), old) {
					want = now
					all++
				} else {
					none++
				}
				says(t, fmt.Sprintf("%s, kept %v", what, kept), v, want)
			}
		}
		if none == 0 || all == 0 {
			t.Errorf("P9.4: %d blocks: as it was %d times, as it is %d times", blocks, none, all)
		}
	}
}

// TestNoMake: where no Make was every call ends, none panics, and what is kept
// back and what is no block is so all the same.
func TestNoMake(t *testing.T) {
	g := &texter{6}
	for range 30 {
		for _, blocks := range []int{1, 2, 11, 200, 4100} {
			l, _ := blank(t, blocks)
			x := txn.Begin(l)
			first := g.below(blocks - pages(blocks) + 1)
			for n := range pages(blocks) {
				x.Write(first+n, g.text(512))
			}
			if g.below(4) == 0 {
				x.Write(first, full(0xff))
			}
			s := ats(t, "P9.1", x, first)
			for n := range first + pages(blocks) {
				used(t, "P9.1: kept back", s, n, true)
				wants(t, "P9.1: Free of what is kept back", s.Free([]int{n}), api.ErrArg)
			}
			for _, n := range []int{math.MinInt, -1, blocks, 4095, 4096, 8191, 8192, math.MaxInt} {
				s.Free([]int{n})
				s.Alloc(n)
				if n < 0 || n >= blocks {
					used(t, "P9.1: no block", s, n, false)
				}
			}
			for n := range blocks {
				s.Free([]int{n})
			}
			s.Alloc(s.Left())
			s.Left()
			x.Commit()
			isOver(t, "P9.1: no Make", s)
		}
	}
}

// TestOtherBlocks: blocks other than the bitmap's stay as they are, in the
// transaction and behind its Commit.
func TestOtherBlocks(t *testing.T) {
	const blocks, first = 60, 20
	l, _ := marked(t, blocks)
	x := txn.Begin(l)
	wants(t, "txn's Write", x.Write(30, full('x')), api.OK)
	wants(t, "txn's Write", x.Write(first-1, full('y')), api.OK)
	want := texts(t, x)
	same := func(what string, x *txn.Tx) {
		t.Helper()
		for n, text := range texts(t, x) {
			if n != first && text != want[n] {
				t.Fatalf("P9.1: %s: block %d is another", what, n)
			}
		}
	}
	s := makes(t, "P9.1", x, first)
	same("Make", x)
	all := allocs(t, "P9.1", s, s.Left())
	same("Alloc", x)
	wants(t, "P9.1: Free", s.Free(all[3:17]), api.OK)
	same("Free", x)
	inUse(s)
	same("Used and Left", x)
	if x.Dirty() != 3 {
		t.Errorf("P9.1: %d blocks were written", x.Dirty())
	}
	wants(t, "P9.4: Commit", x.Commit(), api.OK)
	same("Commit", txn.Begin(l))
}

// TestNotRead: a log that meets a disk without power is dead for good, so one
// that goes on when the power is back was asked nothing: of blocks other than
// the bitmap's nothing is read, and At asks nothing of any.
func TestNotRead(t *testing.T) {
	for _, blocks := range []int{60, 4100} {
		l, d := marked(t, blocks)
		early := txn.Begin(l)
		d.Crash(nil)
		for _, x := range []*txn.Tx{early, txn.Begin(l)} {
			for first := range 4 {
				ats(t, "P9.1: off", x, first)
			}
			bothRefuse(t, "P9.1: off", x, -1, api.ErrArg)
			bothRefuse(t, "P9.1: off", x, blocks, api.ErrSpace)
			s := makes(t, "P9.1: off", x, 4)
			all := allocs(t, "P9.1: off", s, s.Left())
			wants(t, "P9.1: off, Free", s.Free(all[2:9]), api.OK)
			wants(t, "P9.1: off, Free", s.Free([]int{0}), api.ErrArg)
			refuses(t, "P9.1: off", s, 9, api.ErrSpace)
			says(t, "P9.1: off", s, with(slices.Repeat([]bool{true}, blocks), all[2:9], false))
			x.Abort()
			isOver(t, "P9.1: off", s)
		}
		d.On()
		for n := range blocks {
			if text, err := l.Read(n); text != full(letter(n)) || err != api.OK {
				t.Fatalf("P9.1: off: the log was asked, or changed: %d", err)
			}
		}
	}
}

// TestReadErrors: where the bitmap can't be read its errors are told, behind
// those that need no reading, and nothing is changed.
func TestReadErrors(t *testing.T) {
	for _, blocks := range []int{60, 4200} {
		l, d := blank(t, blocks)
		x := txn.Begin(l)
		s := makes(t, "P9.1", x, 5)
		a := allocs(t, "P9.1", s, blocks-5-pages(blocks)-3)
		wants(t, "P9.4: Commit", x.Commit(), api.OK)
		y := txn.Begin(l)
		v := ats(t, "P9.1", y, 5)
		d.Crash(nil)
		for range 2 {
			refuses(t, "P9.1: off", v, 1, api.ErrOff)
			refuses(t, "P9.1: off", v, 4, api.ErrOff)
			refuses(t, "P9.1: off", v, -1, api.ErrArg)
			refuses(t, "P9.1: off", v, blocks-5-pages(blocks)+1, api.ErrSpace)
			refuses(t, "P9.1: off", v, math.MaxInt, api.ErrSpace)
			wants(t, "P9.1: off, Free", v.Free(a), api.ErrOff)
			wants(t, "P9.1: off, Free", v.Free(a[:1]), api.ErrOff)
			for _, n := range []int{-1, 0, 5, blocks, math.MaxInt, a[2]} {
				wants(t, "P9.1: off, Free", v.Free([]int{a[2], n}), api.ErrArg)
			}
			allocs(t, "P9.1: off, none is to be read of", v, 0)
			wants(t, "P9.1: off, Free of none", v.Free(nil), api.OK)
			left(t, "P9.1: off", v, 0)
			used(t, "P9.1: off", v, a[0], false)
			used(t, "P9.1: off", v, 5, true)
			used(t, "P9.1: off", v, 0, true)
			used(t, "P9.1: off", v, blocks, false)
			if y.Dirty() != 0 {
				t.Fatalf("P9.1: off: %d blocks were written", y.Dirty())
			}
			d.On() // but the log is dead
		}
		l = opens(t, "P9.1", d)
		says(t, "P9.4", ats(t, "P9.4", txn.Begin(l), 5), with(fresh(blocks, 5), a, true))
	}
}

// TestHalfRead: one block of the bitmap is the transaction's own, and the other
// can't be read: what is wrong of what can be is told first, and nothing is
// changed.
func TestHalfRead(t *testing.T) {
	const blocks = 4200
	l, d := blank(t, blocks)
	x := txn.Begin(l)
	s := makes(t, "P9.1", x, 0)
	allocs(t, "P9.1", s, s.Left())
	wants(t, "P9.4: Commit", x.Commit(), api.OK)
	y := txn.Begin(l)
	v := ats(t, "P9.1", y, 0)
	wants(t, "P9.1: Free", v.Free([]int{7, 9}), api.OK)
	d.Crash(nil)
	wants(t, "P9.1: Free of both", v.Free([]int{8, 4199}), api.ErrOff)
	wants(t, "P9.1: Free of a free one", v.Free([]int{4199, 7}), api.ErrArg)
	wants(t, "P9.1: Free of a free one", v.Free([]int{7, 4199}), api.ErrArg)
	refuses(t, "P9.1: Alloc", v, 3, api.ErrOff)
	left(t, "P9.1", v, 0)
	for n := range 4096 {
		used(t, "P9.1", v, n, n != 7 && n != 9)
	}
	y.Abort()

	y = txn.Begin(opens(t, "P9.1", on(d)))
	v = ats(t, "P9.1", y, 0)
	wants(t, "P9.1: Free", v.Free([]int{4100}), api.OK)
	d.Crash(nil)
	wants(t, "P9.1: Free of both", v.Free([]int{8, 4199}), api.ErrOff)
	wants(t, "P9.1: Free of a free one", v.Free([]int{8, 4100}), api.ErrArg)
	refuses(t, "P9.1: Alloc", v, 1, api.ErrOff)
	used(t, "P9.1", v, 4199, true)
	used(t, "P9.1", v, 4100, false)
	if y.Dirty() != 1 {
		t.Errorf("P9.1: %d blocks are written", y.Dirty())
	}
}

func on(d *disk.Disk) *disk.Disk {
	d.On()
	return d
}

// TestWritten: no more of the bitmap is written than changes, so that a small
// log takes it.
func TestWritten(t *testing.T) {
	l, _ := blank(t, 8000)
	x := txn.Begin(l)
	makes(t, "P9.1", x, 0)
	wants(t, "P9.4: Commit", x.Commit(), api.OK)
	x = txn.Begin(l)
	s := ats(t, "P9.1", x, 0)
	allocs(t, "P9.1", s, 0)
	wants(t, "P9.1: Free of none", s.Free(nil), api.OK)
	refuses(t, "P9.1", s, 8000, api.ErrSpace)
	wants(t, "P9.1: Free", s.Free([]int{4000, 5000}), api.ErrArg)
	inUse(s)
	if x.Dirty() != 0 {
		t.Fatalf("P9.1: %d blocks were written, and none is changed", x.Dirty())
	}
	one := allocs(t, "P9.1", s, 1)
	wants(t, "P9.1: Free", s.Free(one), api.OK)
	if x.Dirty() != 1 {
		t.Fatalf("P9.1: %d blocks were written", x.Dirty())
	}
}

// TestHandedIn: a list that is handed in stays as it is, its spare room too, and
// is not kept.
func TestHandedIn(t *testing.T) {
	l, _ := blank(t, 4200)
	s := makes(t, "R3", txn.Begin(l), 0)
	all := allocs(t, "R3", s, s.Left())
	room := []int{all[9], all[3], 4199, all[5], 77, 78, 79}
	was := slices.Clone(room)
	wants(t, "R3: Free", s.Free(room[:4]), api.OK)
	if !slices.Equal(room, was) {
		t.Fatalf("R3: Free changed its list to %v", room)
	}
	want := with(slices.Repeat([]bool{true}, 4200), was[:4], false)
	for i := range room {
		room[i] = 100 + i
	}
	says(t, "R3: the list was kept", s, want)
	room = []int{all[20], all[9], all[4], 7, 6}
	was = slices.Clone(room)
	wants(t, "R3: Free", s.Free(room[:3]), api.ErrArg)
	if !slices.Equal(room, was) {
		t.Fatalf("R3: a refused Free changed its list to %v", room)
	}
}

// TestNewMemory: no two lists that are answered share memory, and what is
// written into one changes nothing.
func TestNewMemory(t *testing.T) {
	l, _ := blank(t, 500)
	s := makes(t, "R3", txn.Begin(l), 0)
	var lists [][]int
	for i := range 9 {
		lists = append(lists, allocs(t, "R3", s, 1+i))
	}
	want := inUse(s)
	for i, a := range lists {
		for j, b := range lists {
			if i != j && share(a, b) {
				t.Errorf("R3: answers %d and %d share memory", i, j)
			}
		}
	}
	for _, a := range lists {
		a = a[:cap(a)]
		for i := range a {
			a[i] = -5
		}
	}
	says(t, "R3: an answer was kept", s, want)
}

// share: do two lists, with their spare room, have memory in common?
func share(a, b []int) bool {
	begin := func(l []int) uintptr { return uintptr(unsafe.Pointer(unsafe.SliceData(l))) }
	end := func(l []int) uintptr { return begin(l) + uintptr(cap(l))*unsafe.Sizeof(0) }
	return begin(a) < end(b) && begin(b) < end(a)
}

// world is a disk with a space on it, and what the chapter says of it.
type world struct {
	g     *texter
	d     *disk.Disk
	l     *log.Log
	first int
	safe  []bool // what the last commit left
	now   []bool // what the transaction under way has made of it
	x     *txn.Tx
	s     *space.Space
	falls int
}

func (w *world) begin(t *testing.T, what string) {
	t.Helper()
	w.x = txn.Begin(w.l)
	w.s = ats(t, what, w.x, w.first)
	w.now = slices.Clone(w.safe)
}

// picked is the numbers of the blocks that are so, in use or free, and not kept back.
func (w *world) picked(use bool) []int {
	var list []int
	for n := w.first + pages(len(w.now)); n < len(w.now); n++ {
		if w.now[n] == use {
			list = append(list, n)
		}
	}
	return list
}

func (w *world) alloc(t *testing.T, what string) {
	t.Helper()
	open := w.picked(false)
	n := w.g.below(len(open)/2+3) - 1
	if w.g.below(9) == 0 {
		n = len(open) + w.g.below(2)
	}
	switch {
	case n < 0:
		refuses(t, "P9.1: "+what, w.s, n, api.ErrArg)
	case n > len(open):
		refuses(t, "P9.1: "+what, w.s, n, api.ErrSpace)
	default:
		got := allocs(t, "P9.2: "+what, w.s, n)
		for _, k := range got {
			if !slices.Contains(open, k) {
				t.Fatalf("P9.2: %s: Alloc tells %d", what, k)
			}
		}
		w.now = with(w.now, got, true)
	}
}

func (w *world) free(t *testing.T, what string) {
	t.Helper()
	taken := w.g.mixed(w.picked(true))
	list := taken[:w.g.below(len(taken)+1)]
	if w.g.below(3) > 0 {
		wants(t, "P9.1: Free, "+what, w.s.Free(list), api.OK)
		w.now = with(w.now, list, false)
		return
	}
	wrong := append(w.picked(false), list...)
	wrong = append(wrong, -1, len(w.now), 0, w.first, w.first+pages(len(w.now))-1)
	list = slices.Insert(list, w.g.below(len(list)+1), wrong[w.g.below(len(wrong))])
	wants(t, fmt.Sprintf("P9.1: Free(%v), %s", list, what), w.s.Free(list), api.ErrArg)
}

// commit commits, and now and then the power goes in it.
func (w *world) commit(t *testing.T, what string) {
	t.Helper()
	if w.g.below(2) == 0 {
		w.d.Fall(1 + w.g.below(8))
	}
	err := w.x.Commit()
	w.d.Fall(0)
	isOver(t, "P9.1: "+what, w.s)
	if err == api.OK {
		w.safe = w.now
		w.begin(t, what)
		return
	}
	wants(t, "txn's Commit", err, api.ErrOff)
	w.falls++
	crash(w.d, chosen(w.d.Pending(), func(i int) bool { return w.g.below(2) == 0 }))
	w.l = opens(t, what, w.d)
	got := inUse(ats(t, what, txn.Begin(w.l), w.first))
	if !slices.Equal(got, w.safe) && !slices.Equal(got, w.now) {
		t.Fatalf("P9.4: %s: neither what it was nor what it is", what)
	}
	w.safe = got
	w.begin(t, what)
}

func (w *world) step(t *testing.T, what string) {
	t.Helper()
	switch k := w.g.below(20); {
	case k < 8:
		w.alloc(t, what)
	case k < 15:
		w.free(t, what)
	case k < 17:
		w.commit(t, what)
	case k < 18:
		w.x.Abort()
		isOver(t, "P9.1: "+what, w.s)
		w.begin(t, what)
	case k < 19:
		w.s = ats(t, what, w.x, w.first)
	default:
		w.s = makes(t, what, w.x, w.first)
		w.now = fresh(len(w.now), w.first)
	}
	says(t, "P9.2: "+what, w.s, w.now)
}

// walk is many calls in an order that looks like chance; it tells how often the
// power went.
func walk(t *testing.T, seed uint64, blocks, steps int) int {
	t.Helper()
	w := &world{g: &texter{seed}}
	w.l, w.d = blank(t, blocks)
	w.first = w.g.below(min(12, blocks-pages(blocks)+1))
	x := txn.Begin(w.l)
	makes(t, "the walk", x, w.first)
	wants(t, "txn's Commit", x.Commit(), api.OK)
	w.safe = fresh(blocks, w.first)
	w.begin(t, "the walk")
	for i := range steps {
		w.step(t, fmt.Sprintf("walk %d of %d blocks, step %d", seed, blocks, i))
	}
	return w.falls
}

func TestWalks(t *testing.T) {
	falls := 0
	for seed := range 300 {
		falls += walk(t, uint64(seed), 1+seed/4, 200)
	}
	for seed, blocks := range []int{4090, 4095, 4096, 4097, 4098, 4110, 6000, 8184} {
		falls += walk(t, uint64(1000+seed), blocks, 60)
	}
	if falls < 500 {
		t.Errorf("the power went in %d commits alone", falls)
	}
}

// outcome is all that one order of calls tells.
func outcome(t *testing.T) string {
	g := &texter{12}
	l, d := blank(t, 4400)
	var b strings.Builder
	x := txn.Begin(l)
	s, err := space.Make(x, 3)
	fmt.Fprintln(&b, err)
	for range 60 {
		a, err := s.Alloc(g.below(200))
		fmt.Fprintln(&b, a, err, s.Free(g.mixed(a)[:g.below(len(a)+1)]), s.Left())
		if g.below(5) == 0 {
			fmt.Fprintln(&b, x.Commit())
			x = txn.Begin(l)
			s, err = space.At(x, 3)
			fmt.Fprintln(&b, err)
		}
	}
	return b.String() + state(d)
}

// TestTwice: the same calls tell the same, each time.
func TestTwice(t *testing.T) {
	want := outcome(t)
	for range 5 {
		if outcome(t) != want {
			t.Fatal("R4: the same calls told something else")
		}
	}
}

// TestBeside: spaces of several disks beside one another.
func TestBeside(t *testing.T) {
	want := outcome(t)
	for i := range 6 {
		t.Run(strconv.Itoa(i), func(t *testing.T) {
			t.Parallel()
			if outcome(t) != want {
				t.Error("R4: what runs beside shows")
			}
			walk(t, uint64(i), 30+i, 60)
		})
	}
}
