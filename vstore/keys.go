package vstore

import (
	"coffer/api"
	"coffer/names"
	"coffer/tuple"
)

const (
	mark = "coffer store\n"
	// numberSize is how many bytes a number has.
	numberSize = 9
)

// nameKey is the index's key of a bucket.
func nameKey(name string) string { return text(textPart(name)) }

// versionKey is the index's key of a version of a bucket.
func versionKey(name string, v api.Version) string {
	return text(textPart(name), textPart(v.Key), numberPart(v.Seq))
}

// limits are the texts from which on and ahead of which all keys of a bucket
// stand; the first is its own.
func limits(name string) (string, string) {
	from, to, err := tuple.Limits([]tuple.Part{textPart(name)})
	must(err)
	return from, to
}

// nameOf is the name of the bucket whose key this is.
func nameOf(key string) string {
	parts, err := tuple.Read(key)
	mustRead(err)
	mustNot(len(parts) != 1, api.ErrTorn)
	name := parts[0].Text
	mustRead(names.Bucket(name))
	return name
}

// head is the first block of a store whose index has this root.
func head(root int) string {
	said := mark + number(int64(root))
	return said + blank()[len(said):]
}

// rootOf is the root that a first block says.
func rootOf(first string) int {
	root := int(numberOf(first[len(mark):][:numberSize]))
	mustNot(first != head(root), api.ErrTorn)
	return root
}

// number is a number's text.
func number(n int64) string { return text(numberPart(n)) }

// numberOf is the number whose text this is.
func numberOf(s string) int64 {
	parts, err := tuple.Read(s)
	mustRead(err)
	mustNot(len(parts) != 1 || parts[0].Kind != tuple.Rise, api.ErrTorn)
	return parts[0].N
}

func textPart(s string) tuple.Part { return tuple.Part{Kind: tuple.Text, Text: s} }

func numberPart(n int64) tuple.Part { return tuple.Part{Kind: tuple.Rise, N: n} }

// text is the text of a list of parts.
func text(l ...tuple.Part) string {
	s, err := tuple.Write(l)
	must(err)
	return s
}
