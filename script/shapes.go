package script

import (
	"coffer/api"
	"coffer/world"
)

// shape is how the line of one kind of commands looks: its name, and a letter
// for each part that stands behind it.
type shape struct {
	name       string
	kind, step int
	parts      string
}

// shapes are all there are. The letters: S Sectors, Z Size, B Bucket of a
// command; b Bucket, k Key, d Data, m Meta, q Seq, n N, c Kept of its step. The
// parts m and c take all words that are left.
var shapes = [...]shape{
	{"world", World, 0, "SZ"},
	{"make", Step, world.Make, "b"},
	{"drop", Step, world.Drop, "b"},
	{"put", Step, world.Put, "bkdm"},
	{"delete", Step, world.Delete, "bk"},
	{"remove", Step, world.Remove, "bkq"},
	{"get", Step, world.Get, "bk"},
	{"version", Step, world.GetVersion, "bkq"},
	{"list", Step, world.List, "bkn"},
	{"versions", Step, world.Versions, "bkn"},
	{"names", Step, world.Names, ""},
	{"export", Step, world.Export, "b"},
	{"since", Step, world.Since, "bq"},
	{"import", Step, world.Import, "bd"},
	{"apply", Step, world.Apply, "bd"},
	{"shelf", Step, world.ImportShelf, "bn"},
	{"patch", Step, world.ApplyShelf, "bn"},
	{"fall", Step, world.Fall, "n"},
	{"crash", Step, world.Crash, "nc"},
	{"value", Value, 0, "B"},
	{"digest", Digest, 0, ""},
	{"up", Up, 0, ""},
}

// shapeNamed is the shape of the lines that begin with a name.
func shapeNamed(name string) (shape, bool) {
	for _, s := range shapes {
		if s.name == name {
			return s, true
		}
	}
	return shape{}, false
}

// shapeOf is the shape of a command's line. A step's kind is looked at in steps
// alone.
func shapeOf(c Command) (shape, bool) {
	for _, s := range shapes {
		if s.kind == c.Kind && (s.kind != Step || s.step == c.Step.Kind) {
			return s, true
		}
	}
	return shape{}, false
}

// parseLine is the command that a line says.
func parseLine(line string) (Command, bool) {
	words := wordsOf(line)
	s, ok := shapeNamed(words[0])
	if !ok {
		return Command{}, false
	}
	c := Command{Kind: s.kind, Step: world.Step{Kind: s.step}}
	r := reader{words: words[1:]}
	for i := range len(s.parts) {
		c.read(s.parts[i], &r)
	}
	if r.bad || r.hasMore() {
		return Command{}, false
	}
	return c, true
}

// read takes a part from a line's words.
func (c *Command) read(part byte, r *reader) {
	switch part {
	case 'S':
		c.Sectors = int(r.number())
	case 'Z':
		c.Size = int(r.number())
	case 'B':
		c.Bucket = r.text()
	case 'b':
		c.Step.Bucket = r.text()
	case 'k':
		c.Step.Key = r.text()
	case 'd':
		c.Step.Data = r.text()
	case 'q':
		c.Step.Seq = r.number()
	case 'n':
		c.Step.N = int(r.number())
	case 'm':
		for r.hasMore() {
			c.Step.Meta = append(c.Step.Meta, api.Pair{Name: r.text(), Value: r.text()})
		}
	case 'c':
		for r.hasMore() {
			c.Step.Kept = append(c.Step.Kept, int(r.number()))
		}
	}
}

// appendLine puts the line of a command that has one behind a text, without its
// end. One that is too long may be cut short, but not so far that it isn't.
func appendLine(text []byte, c Command) []byte {
	s, _ := shapeOf(c)
	w := writer{out: append(text, s.name...), most: len(text) + api.MaxLine}
	for i := range len(s.parts) {
		c.write(s.parts[i], &w)
	}
	return w.out
}

// write puts a part behind a line.
func (c *Command) write(part byte, w *writer) {
	switch part {
	case 'S':
		w.number(int64(c.Sectors))
	case 'Z':
		w.number(int64(c.Size))
	case 'B':
		w.text(c.Bucket)
	case 'b':
		w.text(c.Step.Bucket)
	case 'k':
		w.text(c.Step.Key)
	case 'd':
		w.text(c.Step.Data)
	case 'q':
		w.number(c.Step.Seq)
	case 'n':
		w.number(int64(c.Step.N))
	case 'm':
		for _, p := range c.Step.Meta {
			w.text(p.Name)
			w.text(p.Value)
		}
	case 'c':
		for _, n := range c.Step.Kept {
			w.number(int64(n))
		}
	}
}
