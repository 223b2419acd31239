package manifest

import (
	"iter"
	"strconv"
	"strings"

	"coffer/api"
	"coffer/hash"
	"coffer/pax"
)

// The records' keys. Each pair of an item's metadata has its own, which is its
// name behind metaPrefix.
const (
	kindKey    = "kind"
	formatKey  = "format"
	nextKey    = "next"
	sinceKey   = "since"
	countKey   = "count"
	keyKey     = "key"
	seqKey     = "seq"
	typeKey    = "type"
	sizeKey    = "size"
	metaPrefix = "meta."
	leafKey    = "leaf"
	endKey     = "end"
)

// The values that are always the same.
const (
	fullKind   = "full"
	deltaKind  = "delta"
	format     = "coffer-1"
	markerType = "marker"
	dataType   = "data"
	end        = "manifest"
)

// records tells the keys and values of all of a manifest's records, in order.
func records(m Manifest) iter.Seq2[string, string] {
	return func(more func(key, value string) bool) {
		for key, value := range headRecords(m) {
			if !more(key, value) {
				return
			}
		}
		for _, x := range m.Items {
			for key, value := range itemRecords(x) {
				if !more(key, value) {
					return
				}
			}
		}
		more(endKey, end)
	}
}

// headRecords tells the keys and values of the records ahead of the items'.
func headRecords(m Manifest) iter.Seq2[string, string] {
	return func(more func(key, value string) bool) {
		kind := deltaKind
		if m.Since == 0 {
			kind = fullKind
		}
		on := more(kindKey, kind) && more(formatKey, format) && more(nextKey, decimal(m.Next))
		if m.Since != 0 {
			on = on && more(sinceKey, decimal(m.Since))
		}
		_ = on && more(countKey, decimal(int64(len(m.Items))))
	}
}

// itemRecords tells the keys and values of an item's records.
func itemRecords(x Item) iter.Seq2[string, string] {
	return func(more func(key, value string) bool) {
		on := more(keyKey, x.Key) && more(seqKey, decimal(x.Seq))
		if x.Marker {
			on = on && more(typeKey, markerType)
		} else {
			on = on && more(typeKey, dataType) && more(sizeKey, decimal(int64(x.Size)))
		}
		for _, p := range x.Meta {
			on = on && more(metaPrefix+p.Name, p.Value)
		}
		_ = on && more(leafKey, hash.Hex(x.Leaf))
	}
}

// decimal is a number's digits.
func decimal(n int64) string { return strconv.FormatInt(n, 10) }

// reader takes one record after the other from the beginning of a text. Where
// another stands than is looked for it is bad from then on, takes nothing more,
// and what it tells means nothing.
type reader struct {
	text string
	at   int
	bad  bool
}

// manifest takes the records of a manifest, which need not be right, nor they
// in its form.
func (r *reader) manifest() Manifest {
	var m Manifest
	kind := r.value(kindKey)
	r.value(formatKey)
	m.Next = r.number(nextKey)
	if kind != fullKind {
		m.Since = r.number(sinceKey)
	}
	count := r.number(countKey)
	// What a text only says doesn't make it go on.
	for int64(len(m.Items)) < min(count, api.MaxCount) && !r.bad {
		m.Items = append(m.Items, r.item())
	}
	r.value(endKey)
	return m
}

// item takes an item's records.
func (r *reader) item() Item {
	x := Item{Key: r.value(keyKey), Seq: r.number(seqKey)}
	x.Marker = r.value(typeKey) == markerType
	if !x.Marker {
		x.Size = int(r.number(sizeKey))
		x.Meta = r.pairs()
	}
	x.Leaf, _ = hash.Parse(r.value(leafKey))
	return x
}

// pairs takes the records of pairs that stand there, but none that is too many.
func (r *reader) pairs() []api.Pair {
	var l []api.Pair
	for !r.bad && len(l) < api.MaxMeta {
		key, value, next, _ := pax.Read(r.text, r.at)
		name, found := strings.CutPrefix(key, metaPrefix)
		if !found {
			break
		}
		l = append(l, api.Pair{Name: name, Value: value})
		r.at = next
	}
	return l
}

// number takes a record with this key and tells its value as a number. What is
// none, or too great, comes as another one, whose digits are not the value.
func (r *reader) number(key string) int64 {
	n, _ := strconv.ParseInt(r.value(key), 10, 64)
	return n
}

// value takes a record with this key and tells its value.
func (r *reader) value(key string) string {
	if r.bad {
		return ""
	}
	found, value, next, err := pax.Read(r.text, r.at)
	if err != api.OK || found != key {
		r.bad = true
		return ""
	}
	r.at = next
	return value
}
