package vstore

import (
	"fmt"
	"strings"
	"testing"

	"coffer/api"
	"coffer/disk"
	"coffer/index"
	"coffer/txn"
	"coffer/version"
)

// held is a store with a bucket that has two versions, and one that has none.
func held(t *testing.T) (*disk.Disk, *Store) {
	t.Helper()
	d, _ := disk.New(400)
	s, err := Open(d, 100)
	if err != api.OK {
		t.Fatalf("Open: %d", err)
	}
	b := api.Bucket{Next: 9, Versions: []api.Version{{Key: "k", Seq: 3}, {Key: "k", Seq: 5, Data: "five"}}}
	for _, err := range []api.Errno{s.Set("a", b), s.Make("b")} {
		if err != api.OK {
			t.Fatalf("Set, Make: %d", err)
		}
	}
	return d, s
}

// bytesOf is a version as it lies on the disk.
func bytesOf(key string, seq int64) string {
	b, _ := version.Write(api.Version{Key: key, Seq: seq})
	return b
}

// TestForged: entries that no call has laid are found by Open, and no call
// tells of them.
func TestForged(t *testing.T) {
	key := func(name, key string, seq int64) string {
		return versionKey(name, api.Version{Key: key, Seq: seq})
	}
	name := nameKey
	for what, forge := range map[string]func(i *index.Index){
		"no tuple":                    func(i *index.Index) { i.Put("x", "") },
		"a number as a name":          func(i *index.Index) { i.Put(number(3), number(1)) },
		"a name that isn't right":     func(i *index.Index) { i.Put(name("B"), number(1)) },
		"two parts":                   func(i *index.Index) { i.Put(text(textPart("a"), textPart("k")), number(1)) },
		"four parts":                  func(i *index.Index) { i.Put(key("a", "k", 3)+number(1), bytesOf("k", 3)) },
		"a version of no bucket":      func(i *index.Index) { i.Put(key("c", "k", 3), bytesOf("k", 3)) },
		"a bucket's name gone":        func(i *index.Index) { i.Delete(name("a")) },
		"a Next that is no number":    func(i *index.Index) { i.Put(name("a"), "9") },
		"a Next that is none":         func(i *index.Index) { i.Put(name("a"), "") },
		"a Next that is a text":       func(i *index.Index) { i.Put(name("a"), name("x")) },
		"a Next that falls":           func(i *index.Index) { i.Put(name("a"), strings.Replace(number(9), "\x02", "\x03", 1)) },
		"a Next of two numbers":       func(i *index.Index) { i.Put(name("a"), number(9)+number(9)) },
		"a Next that is 0":            func(i *index.Index) { i.Put(name("b"), number(0)) },
		"a Next that is too small":    func(i *index.Index) { i.Put(name("a"), number(5)) },
		"a Next above MaxSeq + 1":     func(i *index.Index) { i.Put(name("a"), number(api.MaxSeq+2)) },
		"no version's bytes":          func(i *index.Index) { i.Put(key("a", "k", 4), "x") },
		"a version without bytes":     func(i *index.Index) { i.Put(key("a", "k", 4), "") },
		"bytes of another key":        func(i *index.Index) { i.Put(key("a", "k", 4), bytesOf("j", 4)) },
		"bytes of another number":     func(i *index.Index) { i.Put(key("a", "k", 4), bytesOf("k", 6)) },
		"bytes of a key behind it":    func(i *index.Index) { i.Put(key("a", "l", 4), bytesOf("m", 4)) },
		"bytes of a number behind it": func(i *index.Index) { i.Put(key("a", "k", 6), bytesOf("k", 7)) },
		"another key for the name": func(i *index.Index) {
			i.Delete(name("a"))
			i.Put(text(textPart("a"), textPart("k")), number(20))
		},
		"a number twice":              func(i *index.Index) { i.Put(key("a", "j", 3), bytesOf("j", 3)) },
		"one behind all of the store": func(i *index.Index) { i.Put("\xff", "") },
		"more than MaxCount": func(i *index.Index) {
			i.Put(name("b"), number(400))
			for seq := range int64(api.MaxCount + 1) {
				i.Put(key("b", "k", seq+1), bytesOf("k", seq+1))
			}
		},
	} {
		d, s := held(t)
		if err := s.do(func(w *work) { forge(w.i) }); err != api.OK {
			t.Fatalf("%s: forging: %d", what, err)
		}
		if again, err := Open(d, 100); again != nil || err != api.ErrTorn {
			t.Errorf("%s: P16.1: Open: %v, %d, want ErrTorn", what, again, err)
		}
		for name, next := range map[string]int64{"a": 9, "b": 1} {
			if b, err := s.Value(name); err != api.ErrTorn && (err != api.OK || b.Next != next) {
				t.Errorf("%s: Value(%q): %+v, %d", what, name, b, err)
			}
		}
		if l := s.Names(); len(l) > 0 && fmt.Sprint(l) != "[a b]" {
			t.Errorf("%s: Names: %q", what, l)
		}
		s.Put("a", "k", "", nil)
		s.Drop("a")
		s.Drop("b")
	}
}

// TestHead: first blocks whose root is no root.
func TestHead(t *testing.T) {
	for _, root := range []int{-1, 0, 1, 299, 300, 1 << 16, 1 << 40, -1 << 63} {
		d, s := held(t)
		if _, err := within(s.l, func(t *txn.Tx) api.Errno { return t.Write(headBlock, head(root)) }); err != api.OK {
			t.Fatalf("a first block of root %d: %d", root, err)
		}
		if again, err := Open(d, 100); again != nil || err != api.ErrTorn {
			t.Errorf("P16.1: Open where the root is %d: %v, %d, want ErrTorn", root, again, err)
		}
		if b, err := s.Value("a"); err != api.ErrTorn {
			t.Errorf("Value where the root is %d: %+v, %d", root, b, err)
		}
		if l := s.Names(); l != nil {
			t.Errorf("Names where the root is %d: %q", root, l)
		}
	}
}

// TestOtherRoot: where the index has another root than the first block says,
// that is laid too.
func TestOtherRoot(t *testing.T) {
	d, s := held(t)
	was, _ := s.Value("a")
	err := s.do(func(w *work) {
		must(w.t.Write(headBlock, head(7)))
		w.root = 7
		w.exchange("c", api.Bucket{}, was)
	})
	if err != api.OK {
		t.Fatalf("exchange: %d", err)
	}
	s, err = Open(d, 100)
	if err != api.OK {
		t.Fatalf("P16.4: Open: %d", err)
	}
	if l := s.Names(); fmt.Sprint(l) != "[a b c]" {
		t.Errorf("P16.4: Names: %q", l)
	}
}

// TestGivesUp: what a transaction that gives up has done is not committed, and
// it tells nothing but its error; a fault of the program isn't hidden.
func TestGivesUp(t *testing.T) {
	d, s := held(t)
	for _, why := range []api.Errno{api.ErrSpace, api.ErrTorn, api.ErrBucket} {
		answer, err := told(s, func(w *work) string {
			must(w.i.Put("x", "y"))
			must(w.i.Delete(nameKey("b")))
			must(why)
			return "told"
		})
		if answer != "" || err != why {
			t.Errorf("P16.2: a transaction that gives up with %d: %q, %d", why, answer, err)
		}
	}
	s, err := Open(d, 100)
	if err != api.OK || fmt.Sprint(s.Names()) != "[a b]" {
		t.Errorf("P16.2: behind those that gave up: %d, %q", err, s.Names())
	}
	defer func() {
		if why := recover(); why != "a fault" {
			t.Errorf("a fault: %v", why)
		}
	}()
	s.do(func(*work) { panic("a fault") })
}
