package vstore

import (
	"cmp"
	"slices"
	"strings"

	"coffer/api"
	"coffer/bucket"
	"coffer/index"
	"coffer/log"
	"coffer/space"
	"coffer/txn"
	"coffer/version"
)

// The first block says where the root of the store's index is. Behind it lies
// the bitmap of its space.
const (
	headBlock = iota
	bitmapBlock
)

// work is a transaction of a store. What it can't do ends all of it: its
// methods answer no errors, but give up.
//
// The index has, of each bucket, its name as a key, and its Next; and of each
// version the bucket's name, the version's key and its number as a key, and its
// bytes. As tuples the keys of a bucket stand together, that of its name first,
// those of its versions in canonical order.
type work struct {
	t    *txn.Tx
	i    *index.Index
	root int // of the index, as the first block says
}

// within is what some steps tell in a transaction, which is committed then. If
// it gives up nothing is told, and nothing committed.
func within[T any](l *log.Log, steps func(t *txn.Tx) T) (answer T, err api.Errno) {
	t := txn.Begin(l)
	defer func() {
		if why := recover(); why != nil {
			t.Abort()
			var nothing T
			answer, err = nothing, refusal(why)
		}
	}()
	answer = steps(t)
	must(t.Commit())
	return answer, api.OK
}

// refusal is the error for which a transaction gave up.
func refusal(why any) api.Errno {
	err, ok := why.(api.Errno)
	if !ok {
		panic(why)
	}
	return err
}

// must gives the transaction up where something was refused.
func must(err api.Errno) {
	if err != api.OK {
		panic(err)
	}
}

// mustNot gives the transaction up where something is so that may not be.
func mustNot(is bool, err api.Errno) {
	if is {
		panic(err)
	}
}

// mustRead gives the transaction up where something can't be read. Whatever the
// layers below call it: if it isn't the power, the disk holds no store.
func mustRead(err api.Errno) {
	mustNot(err != api.OK && err != api.ErrOff, api.ErrTorn)
	must(err)
}

// lay lays an empty store.
func lay(t *txn.Tx) {
	s, err := space.Make(t, bitmapBlock)
	must(err)
	i, err := index.Make(s)
	must(err)
	must(t.Write(headBlock, head(i.Root())))
}

// at is the work on the store that was laid.
func at(t *txn.Tx) *work {
	first, err := t.Read(headBlock)
	mustRead(err)
	root := rootOf(first)
	s, err := space.At(t, bitmapBlock)
	mustRead(err)
	return &work{t: t, i: index.At(s, root), root: root}
}

// readAll reads all that hangs on the first block.
func (w *work) readAll() {
	for _, name := range w.names() {
		w.value(name)
	}
}

// names are the buckets' names, rising. Behind each one it goes on behind all
// of that bucket.
func (w *work) names() []string {
	var l []string
	from := ""
	for {
		next := w.between(from, "", 1)
		if len(next) == 0 {
			return l
		}
		name := nameOf(next[0].Key)
		l = append(l, name)
		_, from = limits(name)
	}
}

// value is a bucket's value. ErrBucket.
func (w *work) value(name string) api.Bucket {
	from, to := limits(name)
	// One more than a bucket may have shows that there are too many.
	l := w.between(from, to, 1+api.MaxCount+1)
	mustNot(len(l) == 0, api.ErrBucket)
	mustNot(l[0].Key != from, api.ErrTorn)
	b := api.Bucket{Next: numberOf(l[0].Value)}
	for _, e := range l[1:] {
		v, err := version.Read(e.Value)
		mustRead(err)
		mustNot(e.Key != versionKey(name, v), api.ErrTorn)
		b.Versions = append(b.Versions, v)
	}
	mustNot(!bucket.Right(b), api.ErrTorn)
	return b
}

// between are the index's entries from a key on and ahead of another, at most so
// many.
func (w *work) between(from, to string, most int) []api.Entry {
	var l []api.Entry
	mustRead(w.i.Range(from, to, func(key, value string) bool {
		l = append(l, api.Entry{Key: key, Value: value})
		return len(l) < most
	}))
	return l
}

// exchange gives a bucket one right value in the place of another. The zero
// value, which isn't right, stands for no bucket. What goes makes room for what
// comes, and what stays isn't touched.
func (w *work) exchange(name string, was, is api.Bucket) {
	w.remove(name, was, is)
	if is.Next != was.Next && is.Next != 0 {
		must(w.i.Put(nameKey(name), number(is.Next)))
	}
	for _, v := range is.Versions {
		if at, there := find(was.Versions, v); !there || !same(was.Versions[at], v) {
			value, err := version.Write(v)
			must(err)
			must(w.i.Put(versionKey(name, v), value))
		}
	}
	if root := w.i.Root(); root != w.root {
		must(w.t.Write(headBlock, head(root)))
	}
}

// remove takes away what a bucket had and hasn't any more. It is done by rising
// keys: what the index has behind them is then laid together with blocks that
// are written anyway, and the log has room for more.
func (w *work) remove(name string, was, is api.Bucket) {
	if is.Next == 0 {
		must(w.i.Delete(nameKey(name)))
	}
	for _, v := range was.Versions {
		if _, stays := find(is.Versions, v); !stays {
			must(w.i.Delete(versionKey(name, v)))
		}
	}
}

// find is where the version with the same key and number stands in canonical
// order, or would, and whether it does.
func find(l []api.Version, v api.Version) (int, bool) {
	return slices.BinarySearchFunc(l, v, func(a, b api.Version) int {
		return cmp.Or(strings.Compare(a.Key, b.Key), cmp.Compare(a.Seq, b.Seq))
	})
}

// same tells whether two versions with the same key and number are the same.
func same(a, b api.Version) bool {
	return a.Marker == b.Marker && a.Data == b.Data && slices.Equal(a.Meta, b.Meta)
}
