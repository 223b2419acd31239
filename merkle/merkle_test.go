package merkle_test

import (
	"crypto/sha256"
	"encoding/hex"
	"math"
	"slices"
	"strconv"
	"strings"
	"sync"
	"testing"

	"coffer/api"
	"coffer/merkle"
)

// texter tells texts and numbers that look like chance and are the same each time.
type texter struct{ x uint64 }

func (t *texter) number() uint64 {
	t.x += 0x9e3779b97f4a7c15
	z := t.x
	z = (z ^ z>>30) * 0xbf58476d1ce4e5b9
	z = (z ^ z>>27) * 0x94d049bb133111eb
	return z ^ z>>31
}

func (t *texter) below(n int) int { return int(t.number() % uint64(n)) }

func (t *texter) text(n int) string {
	b := make([]byte, n)
	for i := range b {
		b[i] = byte(t.number())
	}
	return string(b)
}

func (t *texter) hash() [32]byte { return [32]byte([]byte(t.text(32))) }

func (t *texter) hashes(n int) [][32]byte {
	l := make([][32]byte, n)
	for i := range l {
		l[i] = t.hash()
	}
	return l
}

// list has n texts, some of them empty, some of several blocks, some twice.
func (t *texter) list(n int) []string {
	l := make([]string, n)
	for i := range l {
		switch t.below(8) {
		case 0:
			l[i] = l[t.below(i+1)]
		case 1:
			l[i] = t.text(t.below(200))
		default:
			l[i] = t.text(t.below(12))
		}
	}
	return l
}

func known(b string) [32]byte { return sha256.Sum256([]byte(b)) }

func leafOf(text string) [32]byte { return known("\x00" + text) }

func nodeOf(left, right [32]byte) [32]byte {
	return known("\x01" + string(left[:]) + string(right[:]))
}

// rowsOf is the chapter's word "rows", of a list that has texts.
func rowsOf(l []string) [][][32]byte {
	row := make([][32]byte, len(l))
	for i, text := range l {
		row[i] = leafOf(text)
	}
	rows := [][][32]byte{row}
	for len(row) > 1 {
		var up [][32]byte
		for i := 0; i < len(row); i += 2 {
			if i+1 == len(row) {
				up = append(up, row[i])
			} else {
				up = append(up, nodeOf(row[i], row[i+1]))
			}
		}
		row = up
		rows = append(rows, row)
	}
	return rows
}

func rootOf(l []string) [32]byte {
	if len(l) == 0 {
		return known("\x02")
	}
	rows := rowsOf(l)
	return rows[len(rows)-1][0]
}

// firstPart is the greatest power of two below n.
func firstPart(n uint64) uint64 {
	k := uint64(1)
	for 2*k < n {
		k *= 2
	}
	return k
}

// pathOf cuts the list in two, as P3.3 does: the rows' words are left to rowsOf.
func pathOf(l []string, i int) [][32]byte {
	if len(l) == 1 {
		return nil
	}
	k := int(firstPart(uint64(len(l))))
	if i < k {
		return append(pathOf(l[:k], i), rootOf(l[k:]))
	}
	return append(pathOf(l[k:], i-k), rootOf(l[:k]))
}

// steps is how many hashes a path has in a list of n, place i.
func steps(n, i uint64) int {
	if n == 1 {
		return 0
	}
	k := firstPart(n)
	if i < k {
		return 1 + steps(k, i)
	}
	return 1 + steps(n-k, i-k)
}

// ledOf is where a path that has just its steps leads a hash, from the highest row down.
func ledOf(n, i uint64, h [32]byte, path [][32]byte) [32]byte {
	if n == 1 {
		return h
	}
	rest, last := path[:len(path)-1], path[len(path)-1]
	k := firstPart(n)
	if i < k {
		return nodeOf(ledOf(k, i, h, rest), last)
	}
	return nodeOf(last, ledOf(n-k, i-k, h, rest))
}

func holdsOf(root [32]byte, n, i int, text string, path [][32]byte) bool {
	if i < 0 || i >= n || steps(uint64(n), uint64(i)) != len(path) {
		return false
	}
	return ledOf(uint64(n), uint64(i), leafOf(text), path) == root
}

func without(path [][32]byte, at int) [][32]byte {
	return slices.Concat(path[:at], path[at+1:])
}

func with(path [][32]byte, at int, h [32]byte) [][32]byte {
	return slices.Concat(path[:at], [][32]byte{h}, path[at:])
}

func parse(t *testing.T, digits string) [32]byte {
	t.Helper()
	b, err := hex.DecodeString(digits)
	if err != nil || len(b) != 32 {
		t.Fatalf("%q is no hash", digits)
	}
	return [32]byte(b)
}

func TestExamples(t *testing.T) {
	one := parse(t, "6e340b9cffb37a989ca544e6bb780a2c78901d3fb33738768511a30617afa01d")
	two := parse(t, "fac54203e7cc696cf0dfcb42c92a1d9dbaf70ad9e621f4bd8d98662f00e3c125")
	three := parse(t, "aeb6bcfe274b70a14fb067a5e5578264db0fa9b51af5e0ba159158f329e06e77")
	l := []string{"", "\x00", "\x10"}
	for _, x := range []struct {
		what      string
		got, want [32]byte
	}{
		{`Leaf("")`, merkle.Leaf(""), one},
		{"Root of one empty text", merkle.Root(l[:1]), one},
		{"Root of none", merkle.Root(nil), known("\x02")},
		{"Root of an empty list", merkle.Root([]string{}), known("\x02")},
		{"Root of two", merkle.Root(l[:2]), two},
		{"Root of three", merkle.Root(l), three},
		{"Node of the first two and the third", merkle.Node(two, merkle.Leaf("\x10")), three},
	} {
		if x.got != x.want {
			t.Errorf("P3.1: %s is %x, want %x", x.what, x.got, x.want)
		}
	}
	for i, want := range [][][32]byte{
		{merkle.Leaf(l[1]), merkle.Leaf(l[2])},
		{merkle.Leaf(l[0]), merkle.Leaf(l[2])},
		{merkle.Node(merkle.Leaf(l[0]), merkle.Leaf(l[1]))},
	} {
		if got, e := merkle.Path(l, i); e != api.OK || !slices.Equal(got, want) {
			t.Errorf("P3.1: Path %d of three is %x, %d, want %x", i, got, e, want)
		}
	}
	if !merkle.Holds(one, 1, 0, "", nil) || !merkle.Holds(one, 1, 0, "", [][32]byte{}) {
		t.Error("P3.1: the one empty text doesn't stand in its own list")
	}
	if merkle.Holds(two, 1, 0, "", nil) || merkle.Holds(one, 0, 0, "", nil) || merkle.Holds(one, 1, -1, "", nil) || merkle.Holds(one, 1, 1, "", nil) {
		t.Error("P3.1: a text stands under another root, or at no place")
	}
	if merkle.Holds(known("\x02"), 0, 0, "", nil) {
		t.Error("P3.1: a text stands in the list without texts")
	}
}

func TestLeafAndNode(t *testing.T) {
	tx := &texter{1}
	texts := []string{"", "\x00", "\x01", "\x02", "a", "abc", "\xff", "\xc3\x28", "käse", "日本語", strings.Repeat("\x00", 1000), tx.text(1 << 20)}
	for n := range 200 {
		texts = append(texts, tx.text(n))
	}
	for _, text := range texts {
		if got, want := merkle.Leaf(text), leafOf(text); got != want {
			t.Errorf("P3.1: Leaf(%d bytes %.20q) = %x, want %x", len(text), text, got, want)
		}
	}
	hashes := append(tx.hashes(20), [32]byte{}, merkle.Leaf(""), known(""))
	for _, a := range hashes {
		for _, b := range hashes {
			if got, want := merkle.Node(a, b), nodeOf(a, b); got != want {
				t.Errorf("P3.1: Node(%x, %x) = %x, want %x", a, b, got, want)
			}
		}
	}
}

// TestTextsMadeOfHashes: a text of the bytes that a node or a root is made of is a text like others.
func TestTextsMadeOfHashes(t *testing.T) {
	l := []string{"a", "b", "c", "d"}
	left, right := merkle.Node(merkle.Leaf("a"), merkle.Leaf("b")), merkle.Node(merkle.Leaf("c"), merkle.Leaf("d"))
	root := merkle.Root(l)
	for _, mark := range []string{"", "\x00", "\x01", "\x02"} {
		text := mark + string(left[:]) + string(right[:])
		if merkle.Leaf(text) != leafOf(text) || merkle.Leaf(text) == root || merkle.Holds(root, 1, 0, text, nil) {
			t.Errorf("P3.1: the text of two nodes behind %q is taken for their node", mark)
		}
	}
	if merkle.Root([]string{"\x02"}) == merkle.Root(nil) || merkle.Root([]string{""}) == merkle.Root(nil) {
		t.Error("P3.1: a list of one text has the root of the list without texts")
	}
}

// lengths has all that are small, and those about powers of two.
func lengths() []int {
	var l []int
	for n := 1; n <= 140; n++ {
		l = append(l, n)
	}
	for k := 256; k <= 2048; k *= 2 {
		l = append(l, k-1, k, k+1, k+2, k+k/2, k+k/2+1)
	}
	return append(l, 1000, 20001)
}

func TestRootOfLists(t *testing.T) {
	tx := &texter{2}
	for _, n := range lengths() {
		for what, l := range map[string][]string{"unlike texts": tx.list(n), "empty texts": make([]string, n)} {
			if got, want := merkle.Root(l), rootOf(l); got != want {
				t.Errorf("P3.1: Root of %d %s is %x, want %x", n, what, got, want)
			}
		}
	}
}

func TestRootHangsOnOrderAndTexts(t *testing.T) {
	for n := 2; n <= 17; n++ {
		l := make([]string, n)
		for i := range l {
			l[i] = strconv.Itoa(i)
		}
		root := merkle.Root(l)
		for i := range l {
			other := slices.Clone(l)
			other[i] += "x"
			if merkle.Root(other) == root || merkle.Root(other) != rootOf(other) {
				t.Errorf("P3.1: Root of %d texts doesn't hang on text %d", n, i)
			}
			swapped := slices.Clone(l)
			swapped[i], swapped[(i+1)%n] = swapped[(i+1)%n], swapped[i]
			if merkle.Root(swapped) == root || merkle.Root(swapped) != rootOf(swapped) {
				t.Errorf("P3.1: Root of %d texts doesn't hang on the place of text %d", n, i)
			}
		}
		if doubled := append(slices.Clone(l), l[n-1]); merkle.Root(doubled) == root {
			t.Errorf("P3.1: Root of %d texts is that of the list with its last one twice", n)
		}
	}
}

func TestInTwo(t *testing.T) {
	tx := &texter{3}
	for _, n := range lengths() {
		if n == 1 {
			continue
		}
		l := tx.list(n)
		k := firstPart(uint64(n))
		want := merkle.Node(merkle.Root(l[:k]), merkle.Root(l[k:]))
		if got := merkle.Root(l); got != want {
			t.Errorf("P3.3: Root of %d is %x, in two at %d %x", n, got, k, want)
		}
	}
}

// places are those of a list of n that are gone through: all of a small one.
func places(tx *texter, n int) []int {
	if n > 70 {
		return []int{0, 1, n / 2, n - 2, n - 1, int(firstPart(uint64(n))), tx.below(n)}
	}
	l := make([]int, n)
	for i := range l {
		l[i] = i
	}
	return l
}

func TestPaths(t *testing.T) {
	tx := &texter{4}
	for _, n := range lengths() {
		l := tx.list(n)
		for _, i := range places(tx, n) {
			got, e := merkle.Path(l, i)
			if want := pathOf(l, i); e != api.OK || !slices.Equal(got, want) {
				t.Errorf("P3.1: Path %d of %d is %x, %d, want %x", i, n, got, e, want)
			}
		}
	}
}

// TestPathByRows holds paths against the chapter's own words of the rows.
func TestPathByRows(t *testing.T) {
	tx := &texter{5}
	for n := 1; n <= 70; n++ {
		l := tx.list(n)
		rows := rowsOf(l)
		for i := range n {
			var want [][32]byte
			at := i
			for _, row := range rows[:len(rows)-1] {
				if at%2 == 1 {
					want = append(want, row[at-1])
				} else if at+1 < len(row) {
					want = append(want, row[at+1])
				}
				at /= 2
			}
			if got, e := merkle.Path(l, i); e != api.OK || !slices.Equal(got, want) {
				t.Errorf("P3.1: Path %d of %d is %x, %d, by the rows %x", i, n, got, e, want)
			}
		}
	}
}

func TestPathOfNoPlace(t *testing.T) {
	tx := &texter{6}
	for _, n := range []int{0, 1, 2, 3, 4, 5, 8, 9, 100} {
		l := tx.list(n)
		for _, i := range []int{-1, -2, -n, -n - 1, n, n + 1, 2*n + 1, math.MaxInt, math.MaxInt - 1, math.MinInt, math.MinInt + 1, math.MaxInt32, math.MinInt32} {
			if i >= 0 && i < n {
				continue
			}
			if p, e := merkle.Path(l, i); len(p) != 0 || e != api.ErrArg {
				t.Errorf("P3.1: Path %d of %d is %x, %d, want none and ErrArg", i, n, p, e)
			}
		}
	}
	if p, e := merkle.Path(nil, 0); len(p) != 0 || e != api.ErrArg {
		t.Errorf("P3.1: Path 0 of none is %x, %d", p, e)
	}
}

func TestEachStandsThere(t *testing.T) {
	tx := &texter{7}
	for _, n := range lengths() {
		l := tx.list(n)
		root := merkle.Root(l)
		for _, i := range places(tx, n) {
			p, e := merkle.Path(l, i)
			if e != api.OK || !merkle.Holds(root, n, i, l[i], p) {
				t.Errorf("P3.2: text %d of %d doesn't stand there: %d hashes, %d", i, n, len(p), e)
				continue
			}
			for at := range p {
				if merkle.Holds(root, n, i, l[i], without(p, at)) {
					t.Errorf("P3.2: text %d of %d stands there without hash %d of its path", i, n, at)
				}
				if merkle.Holds(root, n, i, l[i], p[:at]) || merkle.Holds(root, n, i, l[i], p[at+1:]) {
					t.Errorf("P3.2: text %d of %d stands there by a piece of its path", i, n)
				}
			}
			if len(p) > 0 && merkle.Holds(root, n, i, l[i], nil) {
				t.Errorf("P3.2: text %d of %d stands there without a path", i, n)
			}
		}
	}
}

func TestLongerPaths(t *testing.T) {
	tx := &texter{8}
	for n := 1; n <= 40; n++ {
		l := tx.list(n)
		root := merkle.Root(l)
		for i := range n {
			p, _ := merkle.Path(l, i)
			for at := range len(p) + 1 {
				for _, h := range [][32]byte{root, {}, merkle.Leaf(l[i]), known("\x02"), tx.hash()} {
					if merkle.Holds(root, n, i, l[i], with(p, at, h)) {
						t.Errorf("P3.2: text %d of %d stands there with a hash more, at %d", i, n, at)
					}
				}
			}
			if len(p) > 0 && merkle.Holds(root, n, i, l[i], slices.Concat(p, p)) {
				t.Errorf("P3.2: text %d of %d stands there by its path twice over", i, n)
			}
			if merkle.Holds(root, n, i, l[i], slices.Concat(p, tx.hashes(100))) {
				t.Errorf("P3.2: text %d of %d stands there with a hundred hashes more", i, n)
			}
		}
	}
}

// TestOtherNumbers asks of one text and path at all small n and i: just where the words say so do they hold.
func TestOtherNumbers(t *testing.T) {
	tx := &texter{9}
	for n := 1; n <= 20; n++ {
		l := tx.list(n)
		root := merkle.Root(l)
		for at := range n {
			p, _ := merkle.Path(l, at)
			for m := -2; m <= 2*n+3; m++ {
				for i := -2; i <= m+2; i++ {
					if got, want := merkle.Holds(root, m, i, l[at], p), holdsOf(root, m, i, l[at], p); got != want {
						t.Errorf("P3.1: text %d of %d: Holds with n %d, i %d is %v, want %v", at, n, m, i, got, want)
					}
				}
			}
		}
	}
}

func TestOneBitElse(t *testing.T) {
	tx := &texter{10}
	for _, n := range []int{1, 2, 3, 5, 7, 8, 11} {
		l := tx.list(n)
		root := merkle.Root(l)
		for i := range n {
			p, _ := merkle.Path(l, i)
			for bit := range 256 {
				r := root
				r[bit/8] ^= 1 << (bit % 8)
				if merkle.Holds(r, n, i, l[i], p) {
					t.Errorf("P3.1: text %d of %d stands under a root with bit %d else", i, n, bit)
				}
				for at := range p {
					q := slices.Clone(p)
					q[at][bit/8] ^= 1 << (bit % 8)
					if merkle.Holds(root, n, i, l[i], q) {
						t.Errorf("P3.1: text %d of %d stands there by a path whose hash %d has bit %d else", i, n, at, bit)
					}
				}
			}
			for _, text := range []string{l[i] + "\x00", "\x00" + l[i], l[i] + "x", "another"} {
				if merkle.Holds(root, n, i, text, p) {
					t.Errorf("P3.1: another text stands at place %d of %d", i, n)
				}
			}
			if len(p) > 1 && p[0] != p[1] {
				q := slices.Clone(p)
				q[0], q[1] = q[1], q[0]
				if merkle.Holds(root, n, i, l[i], q) {
					t.Errorf("P3.1: text %d of %d stands there by a path out of order", i, n)
				}
			}
		}
	}
}

// greatLengths are those that no list has: Holds knows of the list the number alone.
func greatLengths(tx *texter) []int {
	l := []int{math.MaxInt, math.MaxInt - 1, math.MaxInt - 2, math.MaxInt/2 + 1, math.MaxInt / 2, math.MaxInt/2 + 2, math.MaxInt / 3, math.MaxInt / 3 * 2}
	for bit := 31; bit < strconv.IntSize-1; bit++ {
		l = append(l, 1<<bit, 1<<bit+1, 1<<bit-1, 1<<bit+1<<(bit/2)+1)
	}
	for range 50 {
		l = append(l, int(tx.number()>>1))
	}
	return l
}

func TestGreatNumbers(t *testing.T) {
	tx := &texter{11}
	for _, n := range greatLengths(tx) {
		k := int(firstPart(uint64(n)))
		for _, i := range []int{0, 1, 2, n / 3, k - 1, k, min(k+1, n-1), n - 3, n - 2, n - 1, tx.below(n), tx.below(n)} {
			text, p := tx.text(5), tx.hashes(steps(uint64(n), uint64(i)))
			root := ledOf(uint64(n), uint64(i), leafOf(text), p)
			if !merkle.Holds(root, n, i, text, p) {
				t.Errorf("P3.1: place %d of %d isn't led to its root by %d hashes", i, n, len(p))
			}
			if merkle.Holds(root, n, i, text, append(slices.Clone(p), root)) || merkle.Holds(root, n, i, text, p[1:]) || merkle.Holds(root, n, i, text, p[:len(p)-1]) || merkle.Holds(root, n, i, text, nil) {
				t.Errorf("P3.2: place %d of %d is led to its root by a longer or a shorter path", i, n)
			}
			if merkle.Holds(tx.hash(), n, i, text, p) || merkle.Holds(root, n, i, text+"x", p) {
				t.Errorf("P3.1: place %d of %d is led to another root", i, n)
			}
		}
	}
}

func TestHoldsOfNoPlace(t *testing.T) {
	tx := &texter{12}
	ends := []int{math.MinInt, math.MinInt + 1, math.MinInt32, -3, -2, -1, 0, 1, 2, 3, math.MaxInt32, math.MaxInt - 1, math.MaxInt}
	root := merkle.Leaf("")
	for _, n := range ends {
		for _, i := range ends {
			for _, p := range [][][32]byte{nil, {}, {root}, tx.hashes(62), tx.hashes(63), tx.hashes(1000)} {
				if got, want := merkle.Holds(root, n, i, "", p), n == 1 && i == 0 && len(p) == 0; got != want {
					t.Errorf("P3.1: Holds with n %d, i %d, %d hashes is %v", n, i, len(p), got)
				}
			}
		}
	}
}

// TestNothingIsChanged: what is handed in stays as it was, to the end of its spare room.
func TestNothingIsChanged(t *testing.T) {
	tx := &texter{13}
	for n := range 40 {
		room := tx.list(n + 9)
		wasRoom := slices.Clone(room)
		l := room[:n]
		root := merkle.Root(l)
		for i := range n {
			p, _ := merkle.Path(l, i)
			hashes := slices.Concat(p, tx.hashes(9))
			wasHashes := slices.Clone(hashes)
			if !merkle.Holds(root, n, i, l[i], hashes[:len(p)]) || merkle.Holds(root, n, i, l[i], hashes[:len(p)+1]) {
				t.Errorf("P3.2: text %d of %d: spare room counts as path, or the path isn't seen", i, n)
			}
			if !slices.Equal(hashes, wasHashes) {
				t.Errorf("P3.4: Holds changed the path of text %d of %d", i, n)
			}
		}
		if !slices.Equal(room, wasRoom) {
			t.Errorf("P3.4: a list of %d texts was changed", n)
		}
	}
}

// TestNothingIsKept: answers are new memory, and no call hangs on those ahead of it.
func TestNothingIsKept(t *testing.T) {
	tx := &texter{14}
	for n := 2; n < 40; n++ {
		l := tx.list(n)
		i := tx.below(n)
		root := merkle.Root(l)
		first, _ := merkle.Path(l, i)
		second, _ := merkle.Path(l, i)
		want := pathOf(l, i)
		all := first[:cap(first)]
		for at := range all {
			all[at] = [32]byte{}
		}
		if !slices.Equal(second, want) {
			t.Errorf("P3.4: two answers of Path %d of %d share memory", i, n)
		}
		if again, _ := merkle.Path(l, i); !slices.Equal(again, want) || merkle.Root(l) != root {
			t.Errorf("P3.4: what was done with an answer is seen in the next, Path %d of %d", i, n)
		}
		other := slices.Clone(l)
		for at := range l {
			l[at] = "else"
		}
		if !slices.Equal(second, want) {
			t.Errorf("P3.4: an answer hangs on the list behind its call, Path %d of %d", i, n)
		}
		if merkle.Root(l) != rootOf(l) || merkle.Root(other) != root {
			t.Errorf("P3.4: Root of %d hangs on an earlier list", n)
		}
	}
}

func TestBesideOneAnother(t *testing.T) {
	tx := &texter{15}
	lists := make([][]string, 60)
	for i := range lists {
		lists[i] = tx.list(i + 1)
	}
	fine := make([]bool, len(lists))
	var all sync.WaitGroup
	for k, l := range lists {
		all.Go(func() {
			root := merkle.Root(l)
			fine[k] = root == rootOf(l)
			for i, text := range l {
				p, _ := merkle.Path(l, i)
				fine[k] = fine[k] && slices.Equal(p, pathOf(l, i)) && merkle.Holds(root, len(l), i, text, p)
			}
		})
	}
	all.Wait()
	for k, ok := range fine {
		if !ok {
			t.Errorf("P3.1: a list of %d texts, asked beside others, has other answers", len(lists[k]))
		}
	}
}
