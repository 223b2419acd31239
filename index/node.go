package index

import (
	"slices"

	"coffer/api"
	"coffer/page"
)

// kind is the Kind of the pages that are nodes.
const kind = 1

// node is a node of the tree: a page, whose Link is the level. The leaves have
// level 0, and their entries are the keys, and what is said of their values.
// The entries of a node above are its children, which have the level below: the
// number of its block, and the key from which on it holds those of the node;
// that of the first child is "" always, since it holds all from the beginning.
//
// Two children side by side never have room in one block. So where they are no
// leaves they have at least six children together, and a root of level n stands
// above 2^(n+1) - 2 leaves or more: in fewer than 8192 blocks it has level 11 at
// most, and a Put, which takes a block at each level, two more for a new root and
// four for its value, has enough with 96.
type node struct {
	block, level int
	// lo and hi are between which keys its own stand: from lo on, and, if hi
	// isn't "", ahead of hi. They follow from the nodes above.
	lo, hi string
	l      []api.Entry
}

// step is what a call does to the entries of a leaf.
type step func(l []api.Entry) ([]api.Entry, api.Errno)

// place is where key belongs: the child that holds it, or the first of a
// leaf's entries that isn't ahead of it.
func (n node) place(key string) int {
	at, there := page.Find(n.l, key)
	if n.level > 0 && !there {
		at--
	}
	return at
}

// isRight tells whether a block that was read may be this node. Where others
// have written, too, no way down is without an end, and no leaf is told twice.
func (n node) isRight() bool {
	if n.level > 0 && len(n.l) == 0 {
		return false
	}
	for k, e := range n.l {
		isFirst := n.level > 0 && k == 0
		if isFirst != (e.Key == "") || n.level > 0 && len(e.Value) != numberSize {
			return false
		}
		if !isFirst && (e.Key < n.lo || !isAhead(e.Key, n.hi)) {
			return false
		}
	}
	return true
}

// top is the root.
func (i *Index) top() (node, api.Errno) { return i.read(i.root, "", "") }

// child is the child of n at a place. Only a root may be empty.
func (i *Index) child(n node, at int) (node, api.Errno) {
	lo, hi := n.lo, n.hi
	if at > 0 {
		lo = n.l[at].Key
	}
	if at+1 < len(n.l) {
		hi = n.l[at+1].Key
	}
	c, err := i.read(readNumber(n.l[at].Value), lo, hi)
	if err != api.OK {
		return node{}, err
	}
	if c.level != n.level-1 || len(c.l) == 0 {
		return node{}, api.ErrTorn
	}
	return c, api.OK
}

// read is the node in a block. ErrTorn: there is none.
func (i *Index) read(block int, lo, hi string) (node, api.Errno) {
	text, err := i.s.Tx().Read(block)
	if err != api.OK {
		return node{}, err
	}
	p, err := page.Read(text)
	if err != api.OK || p.Kind != kind {
		return node{}, api.ErrTorn
	}
	n := node{block: block, level: p.Link, lo: lo, hi: hi, l: p.L}
	if !n.isRight() {
		return node{}, api.ErrTorn
	}
	return n, api.OK
}

// write lays a node in its block.
func (i *Index) write(n node) api.Errno {
	text, err := page.Write(page.Page{Kind: kind, Link: n.level, L: n.l})
	if err != api.OK {
		return err
	}
	return i.s.Tx().Write(n.block, text)
}

// free gives blocks back. They are the index's own, unless others have written
// its nodes.
func (i *Index) free(l ...int) api.Errno {
	err := i.s.Free(l)
	if err == api.ErrArg {
		return api.ErrTorn
	}
	return err
}

// change does a step to the leaf that key belongs to, and has the tree follow.
// Nodes that stay as they are aren't written.
func (i *Index) change(key string, do step) api.Errno {
	was, err := i.top()
	if err != api.OK {
		return err
	}
	n, err := i.changed(was, key, do)
	if err != api.OK || slices.Equal(n.l, was.l) {
		return err
	}
	return i.settleTop(n)
}

// changed is n behind a step in the leaf of key below it. All below n is
// written then, and n itself not yet: it may have too many entries, or none.
func (i *Index) changed(n node, key string, do step) (node, api.Errno) {
	if n.level == 0 {
		l, err := do(n.l)
		if err != api.OK {
			return node{}, err
		}
		n.l = l
		return n, api.OK
	}
	at := n.place(key)
	was, err := i.child(n, at)
	if err != api.OK {
		return node{}, err
	}
	c, err := i.changed(was, key, do)
	if err != api.OK {
		return node{}, err
	}
	if slices.Equal(c.l, was.l) {
		return n, api.OK
	}
	return i.settle(n, at, c)
}

// settle gives c, the child of n at a place, which has changed, as many blocks
// as it wants: none, one, or two, or one with a neighbour. It is n then.
func (i *Index) settle(n node, at int, c node) (node, api.Errno) {
	var err api.Errno
	last := at
	switch {
	case len(c.l) == 0:
		n.l = without(n.l, at)
		err = i.free(c.block)
	case page.Size(c.l) > page.Room:
		n, err = i.split(n, c)
		last = at + 1
	default:
		err = i.write(c)
	}
	for ; err == api.OK && last >= at-1; last-- {
		n, err = i.join(n, last)
	}
	return n, err
}

// settleTop writes the root, which has changed. What is too much for its block
// goes to two others, a level below; of an only child it takes the place.
func (i *Index) settleTop(n node) api.Errno {
	if page.Size(n.l) > page.Room {
		l, err := i.s.Alloc(1)
		if err != api.OK {
			return err
		}
		n.block = l[0]
		above := node{block: i.root, level: n.level + 1, l: []api.Entry{{Value: number(n.block)}}}
		above, err = i.split(above, n)
		if err != api.OK {
			return err
		}
		return i.write(above)
	}
	for n.level > 0 && len(n.l) == 1 {
		c, err := i.child(n, 0)
		if err != api.OK {
			return err
		}
		if err := i.free(c.block); err != api.OK {
			return err
		}
		n.level, n.l = c.level, c.l
	}
	return i.write(n)
}

// split cuts a child of n that is too great for one block in two. It is n with
// both.
func (i *Index) split(n, c node) (node, api.Errno) {
	l, err := i.s.Alloc(1)
	if err != api.OK {
		return node{}, err
	}
	d := node{block: l[0], level: c.level}
	c.l, d.l = page.Split(c.l)
	n.l = page.Put(n.l, d.l[0].Key, number(d.block))
	if d.level > 0 {
		d.l[0].Key = ""
	}
	if err := i.write(c); err != api.OK {
		return node{}, err
	}
	return n, i.write(d)
}

// join lays the child of n at a place and the next one together in one block,
// if both are there and have room in it; and so the last child of the one with
// the first of the other, which stand side by side then. It is n then.
func (i *Index) join(n node, at int) (node, api.Errno) {
	if at < 0 || at+1 >= len(n.l) {
		return n, api.OK
	}
	c, err := i.child(n, at)
	if err != api.OK {
		return node{}, err
	}
	d, err := i.child(n, at+1)
	if err != api.OK {
		return node{}, err
	}
	seam := len(c.l) - 1
	if d.level > 0 {
		d.l[0].Key = d.lo
	}
	c.l, c.hi = slices.Concat(c.l, d.l), d.hi
	if page.Size(c.l) > page.Room {
		return n, api.OK
	}
	if c.level > 0 {
		if c, err = i.join(c, seam); err != api.OK {
			return node{}, err
		}
	}
	if err := i.write(c); err != api.OK {
		return node{}, err
	}
	n.l = without(n.l, at+1)
	return n, i.free(d.block)
}

// without is the list of a node's children without that at a place. The one
// that is first then holds all from the beginning.
func without(l []api.Entry, at int) []api.Entry {
	l, _ = page.Delete(l, l[at].Key)
	if len(l) > 0 {
		l[0].Key = ""
	}
	return l
}
