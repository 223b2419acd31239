package run

import (
	"strconv"
	"strings"

	"coffer/api"
	"coffer/backup"
	"coffer/hash"
	"coffer/script"
	"coffer/world"
)

// linesOf does a command, and is its lines. The world's own was done when it was
// made.
func linesOf(w *world.World, c script.Command) string {
	switch c.Kind {
	case script.Step:
		return stepLines(c.Step.Kind, w.Do(c.Step))
	case script.Value:
		return valueLines(w.Store(), c.Bucket)
	case script.Digest:
		return digestLines(w.Store())
	case script.Up:
		return upLine(w)
	}
	return okLine()
}

// stepLines is what a step of a kind has told.
func stepLines(kind int, t world.Told) string {
	if t.Err != api.OK {
		return errLine(t.Err)
	}
	switch kind {
	case world.Put, world.Delete:
		return okLine(number(t.Seq))
	case world.Get, world.GetVersion:
		return okLine() + versionLines(t.Version)
	case world.List, world.Versions:
		return okLine(count(t.Rows)) + linesOfEach(t.Rows, rowLine)
	case world.Names:
		return okLine(count(t.Names)) + linesOfEach(t.Names, nameLine)
	case world.Export, world.Since:
		return okLine(strconv.Itoa(len(t.Bytes)), hash.Hex(hash.Sum(t.Bytes)))
	}
	return okLine()
}

// valueLines is a bucket's value. The store is nil where the world is down.
func valueLines(s *backup.Store, name string) string {
	if s == nil {
		return errLine(api.ErrOff)
	}
	b, err := s.Value(name)
	if err != api.OK {
		return errLine(err)
	}
	return okLine(number(b.Next), count(b.Versions)) + linesOfEach(b.Versions, versionLines)
}

// upLine is whether the world is up, and how many archives it has.
func upLine(w *world.World) string {
	up := "no"
	if w.Up() {
		up = "yes"
	}
	return okLine(up, count(w.Shelf()))
}

func versionLines(v api.Version) string {
	if v.Marker {
		return line("version", script.Quote(v.Key), number(v.Seq), "marker")
	}
	return line("version", script.Quote(v.Key), number(v.Seq), "data", script.Quote(v.Data)) +
		linesOfEach(v.Meta, pairLine)
}

func pairLine(p api.Pair) string { return line("meta", script.Quote(p.Name), script.Quote(p.Value)) }

func rowLine(r api.Row) string {
	if r.Marker {
		return line("row", script.Quote(r.Key), number(r.Seq), "marker")
	}
	return line("row", script.Quote(r.Key), number(r.Seq), "data", strconv.Itoa(r.Size))
}

func nameLine(name string) string { return line("name", script.Quote(name)) }

func okLine(words ...string) string {
	return line(append([]string{"ok"}, words...)...)
}

func errLine(err api.Errno) string { return line("err", strconv.Itoa(int(err))) }

func line(words ...string) string { return strings.Join(words, " ") + "\n" }

// linesOfEach is the lines of all of a list, one behind the other.
func linesOfEach[T any](l []T, lines func(T) string) string {
	var all strings.Builder
	for _, one := range l {
		all.WriteString(lines(one))
	}
	return all.String()
}

func number(n int64) string { return strconv.FormatInt(n, 10) }

func count[T any](l []T) string { return strconv.Itoa(len(l)) }
