package index

import (
	"fmt"
	"maps"
	"slices"
	"strings"
	"testing"

	"coffer/api"
	"coffer/disk"
	"coffer/log"
	"coffer/page"
	"coffer/space"
	"coffer/txn"
)

// newSpace is a space of a log with so many blocks.
func newSpace(t *testing.T, blocks int) *space.Space {
	t.Helper()
	d, err := disk.New(8 + blocks)
	if err != api.OK {
		t.Fatalf("disk.New: %d", err)
	}
	l, err := log.Open(d, 8)
	if err != api.OK {
		t.Fatalf("log.Open: %d", err)
	}
	s, err := space.Make(txn.Begin(l), 0)
	if err != api.OK {
		t.Fatalf("space.Make: %d", err)
	}
	return s
}

// count is how many blocks the tree below n has, in which all nodes are right,
// none is empty, and no two side by side have room in one block.
func count(t *testing.T, what string, i *Index, n node) int {
	t.Helper()
	blocks, size := 1, 0
	for at, e := range n.l {
		if n.level == 0 {
			if !strings.HasPrefix(e.Value, inLeaf) {
				_, l, err := parts(e.Value)
				if err != api.OK {
					t.Fatalf("%s: what is said of %q: %d", what, e.Key, err)
				}
				blocks += len(l)
			}
			continue
		}
		c, err := i.child(n, at)
		if err != api.OK {
			t.Fatalf("%s: child %d of block %d, level %d: %d", what, at, n.block, n.level, err)
		}
		together := size + page.Size(c.l)
		if c.level > 0 {
			together += len(c.lo)
		}
		if at > 0 && together <= page.Room {
			t.Fatalf("%s: children %d and %d of block %d, level %d, have room in one block", what, at-1, at, n.block, n.level)
		}
		size = page.Size(c.l)
		blocks += count(t, what, i, c)
	}
	return blocks
}

// whole: is the tree as it is to be, and has no other block? It is its level.
func whole(t *testing.T, what string, i *Index, behind int) int {
	t.Helper()
	n, err := i.top()
	if err != api.OK {
		t.Fatalf("%s: the root: %d", what, err)
	}
	if n.level > 0 && len(n.l) < 2 {
		t.Fatalf("%s: a root of level %d with %d children", what, n.level, len(n.l))
	}
	if got, want := behind-i.s.Left(), count(t, what, i, n)-1; got != want {
		t.Fatalf("%s: P11.4: %d blocks are taken, %d hang on the root", what, got, want)
	}
	return n.level
}

// TestTree: behind every change the tree is as it is to be, so that it has no
// more blocks and levels than what it holds asks for.
func TestTree(t *testing.T) {
	x := uint64(1)
	below := func(n int) int {
		x = x*6364136223846793005 + 1442695040888963407
		return int(x>>33) % n
	}
	most := 0
	for _, long := range []int{1, 3, 40, 97} {
		for _, value := range []int{1, 150, 700} {
			what := fmt.Sprintf("keys up to %d and values up to %d", long+3, value)
			s := newSpace(t, 3000)
			i, err := Make(s)
			if err != api.OK {
				t.Fatalf("%s: Make: %d", what, err)
			}
			behind := s.Left()
			held := map[string]int{}
			for n := range 1600 {
				key := fmt.Sprintf("%03d", below(300))
				key += strings.Repeat("k", below(long+1))
				// By turns it grows and shrinks.
				if below(10) < 8-6*(n/400%2) {
					if err := i.Put(key, strings.Repeat("v", below(value))); err != api.OK {
						t.Fatalf("%s: Put: %d", what, err)
					}
					held[key] = 1
				} else {
					if keys := slices.Sorted(maps.Keys(held)); len(keys) > 0 {
						key = keys[below(len(keys))]
					}
					if err := i.Delete(key); err != api.OK && err != api.ErrNone {
						t.Fatalf("%s: Delete: %d", what, err)
					}
					delete(held, key)
				}
				most = max(most, whole(t, fmt.Sprintf("%s, step %d", what, n), i, behind))
			}
		}
	}
	if most < 3 {
		t.Errorf("no tree had more levels than %d", most)
	}
}

// TestWritten: what stays as it is isn't written, and no more blocks are taken
// than a value asks for.
func TestWritten(t *testing.T) {
	s := newSpace(t, 3000)
	i, err := Make(s)
	if err != api.OK {
		t.Fatalf("Make: %d", err)
	}
	for n := range 500 {
		if err := i.Put(fmt.Sprintf("%050d", n), "value"); err != api.OK {
			t.Fatalf("Put: %d", err)
		}
	}
	root, left := i.Root(), s.Left()
	d, err := disk.New(2000 + 3000)
	if err != api.OK {
		t.Fatalf("disk.New: %d", err)
	}
	l, err := log.Open(d, 2000)
	if err != api.OK {
		t.Fatalf("log.Open: %d", err)
	}
	x := txn.Begin(l)
	for n := range x.Blocks() {
		text, err := s.Tx().Read(n)
		if err != api.OK {
			t.Fatalf("Read: %d", err)
		}
		if text != strings.Repeat("\x00", 512) {
			x.Write(n, text)
		}
	}
	if err := x.Commit(); err != api.OK {
		t.Fatalf("Commit: %d", err)
	}
	key := fmt.Sprintf("%050d", 250)
	for _, c := range []struct {
		key, value  string
		dirty, took int
	}{
		{key, "value", 0, 0},
		{key, "VALUE", 1, 0},
		{key, strings.Repeat("v", 512), 1 + 1 + 1, 1},
		{key, strings.Repeat("v", 513), 1 + 1 + 2, 2},
		{key, strings.Repeat("v", 2048), 1 + 1 + 4, 4},
	} {
		s, err := space.At(txn.Begin(l), 0)
		if err != api.OK {
			t.Fatalf("space.At: %d", err)
		}
		if err := At(s, root).Put(c.key, c.value); err != api.OK || s.Tx().Dirty() != c.dirty || left-s.Left() != c.took {
			t.Errorf("Put of %d bytes: %d, writes %d blocks and takes %d, want %d and %d", len(c.value), err, s.Tx().Dirty(), left-s.Left(), c.dirty, c.took)
		}
		if err := At(s, root).Delete("none"); err != api.ErrNone || s.Tx().Dirty() != c.dirty {
			t.Errorf("Delete of what isn't there: %d, writes %d blocks", err, s.Tx().Dirty()-c.dirty)
		}
	}
}

// lays writes a page where it is told.
func lays(t *testing.T, s *space.Space, block int, p page.Page) {
	t.Helper()
	text, err := page.Write(p)
	if err != api.OK {
		t.Fatalf("page.Write: %d", err)
	}
	if err := s.Tx().Write(block, text); err != api.OK {
		t.Fatalf("Write(%d): %d", block, err)
	}
}

// torn: does every call say that the index of this root can't be read at "k"?
func torn(t *testing.T, what string, s *space.Space, root int) {
	t.Helper()
	i := At(s, root)
	if value, err := i.Get("k"); value != "" || err != api.ErrTorn {
		t.Errorf("%s: Get: %q, %d", what, value, err)
	}
	told := 0
	if err := i.Range("k", "l", func(string, string) bool { told++; return true }); told != 0 || err != api.ErrTorn {
		t.Errorf("%s: Range: %d, %d told", what, err, told)
	}
	if err := i.Put("k", "v"); err != api.ErrTorn {
		t.Errorf("%s: Put: %d", what, err)
	}
	if err := i.Delete("k"); err != api.ErrTorn {
		t.Errorf("%s: Delete: %d", what, err)
	}
}

// TestTorn: where others have written blocks that are no nodes of this tree
// every call ends, and the one that meets them says so.
func TestTorn(t *testing.T) {
	leaf := page.Page{Kind: kind, L: []api.Entry{{Key: "k", Value: inLeaf}}}
	above := func(level int, l ...api.Entry) page.Page { return page.Page{Kind: kind, Link: level, L: l} }
	const root, below, other = 10, 20, 30
	child := number(below)
	for what, pages := range map[string][2]page.Page{
		"zeros":                      {{}, leaf},
		"another kind":               {{Kind: kind + 1, L: leaf.L}, leaf},
		"a leaf with no key":         {above(0, api.Entry{Value: inLeaf}), leaf},
		"no mark":                    {above(0, api.Entry{Key: "k"}), leaf},
		"a mark of its own":          {above(0, api.Entry{Key: "k", Value: "\x02" + number(1) + child}), leaf},
		"another's mark":             {above(0, api.Entry{Key: "k", Value: "\x02\x00" + child}), leaf},
		"a mark alone":               {above(0, api.Entry{Key: "k", Value: inBlocks}), leaf},
		"half a length":              {above(0, api.Entry{Key: "k", Value: inBlocks + "\x01"}), leaf},
		"too few blocks":             {above(0, api.Entry{Key: "k", Value: inBlocks + number(600) + child}), leaf},
		"too many blocks":            {above(0, api.Entry{Key: "k", Value: inBlocks + number(500) + child + child}), leaf},
		"half a block's number":      {above(0, api.Entry{Key: "k", Value: inBlocks + number(500) + child[:1]}), leaf},
		"no children":                {above(1), leaf},
		"first child not all":        {above(1, api.Entry{Key: "a", Value: child}), leaf},
		"a child without a number":   {above(1, api.Entry{}), leaf},
		"a child with half a number": {above(1, api.Entry{Value: child[:1]}), leaf},
		"a child with two numbers":   {above(1, api.Entry{Value: child + child}), leaf},
		"another level":              {above(2, api.Entry{Value: child}), leaf},
		"itself":                     {above(1, api.Entry{Value: number(root)}), leaf},
		"too high a level":           {above(1, api.Entry{Value: child}), above(1, api.Entry{Value: child})},
		"the highest level":          {above(65535, api.Entry{Value: child}), above(65534, api.Entry{Value: child})},
		"an empty leaf below":        {above(1, api.Entry{Value: child}), above(0)},
		"keys below their place":     {above(1, api.Entry{Value: number(other)}, api.Entry{Key: "j", Value: child}), above(0, api.Entry{Key: "i", Value: inLeaf}, leaf.L[0])},
		"keys at another's place":    {above(1, api.Entry{Value: child}, api.Entry{Key: "l", Value: number(other)}), above(0, leaf.L[0], api.Entry{Key: "l", Value: inLeaf})},
		"children below their place": {above(2, api.Entry{Value: number(other)}, api.Entry{Key: "j", Value: child}), above(1, api.Entry{Value: child}, api.Entry{Key: "i", Value: child})},
	} {
		s := newSpace(t, 100)
		lays(t, s, root, pages[0])
		lays(t, s, below, pages[1])
		torn(t, what, s, root)
	}
}

// TestShared: nodes that hold one child many times have no leaf told twice: the
// first call to meet it again ends.
func TestShared(t *testing.T) {
	s := newSpace(t, 100)
	lays(t, s, 10, page.Page{Kind: kind, L: []api.Entry{{Key: "000", Value: inLeaf}}})
	const levels = 40
	for level := 1; level <= levels; level++ {
		l := []api.Entry{{Value: number(9 + level)}}
		for n := range 50 {
			l = append(l, api.Entry{Key: fmt.Sprintf("%02d%02d", level, n), Value: number(9 + level)})
		}
		lays(t, s, 10+level, page.Page{Kind: kind, Link: level, L: l})
	}
	told := 0
	err := At(s, 10+levels).Range("", "", func(string, string) bool { told++; return true })
	if err != api.ErrTorn || told != 1 {
		t.Errorf("Range: %d, %d told", err, told)
	}
}

// TestNotTheirs: blocks that an index seems to have, and nobody has, are not
// freed.
func TestNotTheirs(t *testing.T) {
	s := newSpace(t, 100)
	taken, err := s.Alloc(10)
	if err != api.OK {
		t.Fatalf("Alloc: %d", err)
	}
	for _, block := range []int{0, 50, 99} {
		lays(t, s, taken[3], page.Page{Kind: kind, L: []api.Entry{{Key: "k", Value: inBlocks + number(500) + number(block)}}})
		i := At(s, taken[3])
		left := s.Left()
		if err := i.Delete("k"); err != api.ErrTorn || s.Left() != left {
			t.Errorf("Delete of a value in block %d: %d", block, err)
		}
		if err := i.Put("k", ""); err != api.ErrTorn || s.Left() != left {
			t.Errorf("Put in the place of a value in block %d: %d", block, err)
		}
	}
}
