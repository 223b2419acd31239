package script_test

import (
	"fmt"
	"regexp"
	"slices"
	"strconv"
	"strings"
	"testing"

	"coffer/api"
	"coffer/script"
	"coffer/world"
)

// The chapter's words once more: its tables as patterns of lines, by which texts
// are read, and as lists of words, by which commands are told.

type command = script.Command

const (
	least    = -9223372036854775808
	greatest = 9223372036854775807

	quotedPattern = `"(?:[ !#-\[\]-~]|\\"|\\\\|\\x[0-9a-f][0-9a-f])*"`
	numberPattern = `(?:0|-?[1-9][0-9]*)`
)

// row is one row of the chapter's tables: a line, in which Q is a quoted text, N
// a number and what stands in ()* there as often as one likes; the command of
// its texts and numbers; and the texts and numbers of a command.
type row struct {
	kind, step int
	line       string
	command    func(q []string, n []int64) command
	words      func(c command) []any
	pattern    *regexp.Regexp
}

func (r row) name() string {
	name, _, _ := strings.Cut(r.line, " ")
	return name
}

func stepOf(s world.Step) command { return command{Kind: script.Step, Step: s} }

// rowsOfSteps are those of the second table, by the shapes that several have.
func rowsOfSteps() []row {
	bucket := func(kind int, name string) row {
		return row{script.Step, kind, name + " Q",
			func(q []string, n []int64) command { return stepOf(world.Step{Kind: kind, Bucket: q[0]}) },
			func(c command) []any { return []any{c.Step.Bucket} }, nil}
	}
	key := func(kind int, name string) row {
		return row{script.Step, kind, name + " Q Q",
			func(q []string, n []int64) command { return stepOf(world.Step{Kind: kind, Bucket: q[0], Key: q[1]}) },
			func(c command) []any { return []any{c.Step.Bucket, c.Step.Key} }, nil}
	}
	keySeq := func(kind int, name string) row {
		return row{script.Step, kind, name + " Q Q N",
			func(q []string, n []int64) command {
				return stepOf(world.Step{Kind: kind, Bucket: q[0], Key: q[1], Seq: n[0]})
			},
			func(c command) []any { return []any{c.Step.Bucket, c.Step.Key, c.Step.Seq} }, nil}
	}
	keyN := func(kind int, name string) row {
		return row{script.Step, kind, name + " Q Q N",
			func(q []string, n []int64) command {
				return stepOf(world.Step{Kind: kind, Bucket: q[0], Key: q[1], N: int(n[0])})
			},
			func(c command) []any { return []any{c.Step.Bucket, c.Step.Key, c.Step.N} }, nil}
	}
	data := func(kind int, name string) row {
		return row{script.Step, kind, name + " Q Q",
			func(q []string, n []int64) command { return stepOf(world.Step{Kind: kind, Bucket: q[0], Data: q[1]}) },
			func(c command) []any { return []any{c.Step.Bucket, c.Step.Data} }, nil}
	}
	shelved := func(kind int, name string) row {
		return row{script.Step, kind, name + " Q N",
			func(q []string, n []int64) command {
				return stepOf(world.Step{Kind: kind, Bucket: q[0], N: int(n[0])})
			},
			func(c command) []any { return []any{c.Step.Bucket, c.Step.N} }, nil}
	}
	return []row{
		bucket(1, "make"), bucket(2, "drop"),
		{script.Step, 3, "put Q Q Q( Q Q)*",
			func(q []string, n []int64) command {
				return stepOf(world.Step{Kind: 3, Bucket: q[0], Key: q[1], Data: q[2], Meta: pairs(q[3:]...)})
			},
			func(c command) []any {
				l := []any{c.Step.Bucket, c.Step.Key, c.Step.Data}
				for _, p := range c.Step.Meta {
					l = append(l, p.Name, p.Value)
				}
				return l
			}, nil},
		key(4, "delete"), keySeq(5, "remove"), key(6, "get"), keySeq(7, "version"), keyN(8, "list"), keyN(9, "versions"),
		{script.Step, 10, "names", func([]string, []int64) command { return stepOf(world.Step{Kind: 10}) }, func(command) []any { return nil }, nil},
		bucket(11, "export"),
		{script.Step, 12, "since Q N",
			func(q []string, n []int64) command {
				return stepOf(world.Step{Kind: 12, Bucket: q[0], Seq: n[0]})
			},
			func(c command) []any { return []any{c.Step.Bucket, c.Step.Seq} }, nil},
		data(13, "import"), data(14, "apply"), shelved(15, "shelf"), shelved(16, "patch"),
		{script.Step, 17, "fall N",
			func(q []string, n []int64) command { return stepOf(world.Step{Kind: 17, N: int(n[0])}) },
			func(c command) []any { return []any{c.Step.N} }, nil},
		{script.Step, 18, "crash N( N)*",
			func(q []string, n []int64) command {
				s := world.Step{Kind: 18, N: int(n[0])}
				for _, kept := range n[1:] {
					s.Kept = append(s.Kept, int(kept))
				}
				return stepOf(s)
			},
			func(c command) []any {
				l := []any{c.Step.N}
				for _, kept := range c.Step.Kept {
					l = append(l, kept)
				}
				return l
			}, nil},
	}
}

// table is both tables, each row with its pattern.
func table() []row {
	nothing := func(command) []any { return nil }
	all := append(rowsOfSteps(),
		row{1, 0, "world N N",
			func(q []string, n []int64) command { return command{Kind: 1, Sectors: int(n[0]), Size: int(n[1])} },
			func(c command) []any { return []any{c.Sectors, c.Size} }, nil},
		row{3, 0, "value Q",
			func(q []string, n []int64) command { return command{Kind: 3, Bucket: q[0]} },
			func(c command) []any { return []any{c.Bucket} }, nil},
		row{4, 0, "digest", func([]string, []int64) command { return command{Kind: 4} }, nothing, nil},
		row{5, 0, "up", func([]string, []int64) command { return command{Kind: 5} }, nothing, nil})
	for i, r := range all {
		pattern := strings.NewReplacer("Q", quotedPattern, "N", numberPattern).Replace(r.line)
		all[i].pattern = regexp.MustCompile(`\A` + pattern + `\z`)
	}
	return all
}

var (
	rows = table()
	word = regexp.MustCompile(quotedPattern + "|" + numberPattern)
)

func pairs(l ...string) []api.Pair {
	var all []api.Pair
	for i := 0; i+1 < len(l); i += 2 {
		all = append(all, api.Pair{Name: l[i], Value: l[i+1]})
	}
	return all
}

// linesOf are a text's lines, as the chapter counts them.
func linesOf(text string) []string {
	l := strings.Split(text, "\n")
	if l[len(l)-1] == "" {
		l = l[:len(l)-1]
	}
	return l
}

func longOf(text string) bool {
	lines := strings.Count(text, "\n")
	if text != "" && !strings.HasSuffix(text, "\n") {
		lines++
	}
	return len(text) > 65536 || lines > 1024 || slices.ContainsFunc(strings.Split(text, "\n"), func(line string) bool { return len(line) > 8192 })
}

// commandOf is what the tables say of a line.
func commandOf(line string) (command, bool) {
	for _, r := range rows {
		if !strings.HasPrefix(line, r.name()) || !r.pattern.MatchString(line) {
			continue
		}
		var texts []string
		var numbers []int64
		for _, w := range word.FindAllString(line[len(r.name()):], -1) {
			if w[0] == '"' {
				text, err := strconv.Unquote(w)
				if err != nil {
					panic(err)
				}
				texts = append(texts, text)
				continue
			}
			n, err := strconv.ParseInt(w, 10, 64)
			if err != nil {
				return command{}, false
			}
			numbers = append(numbers, n)
		}
		return r.command(texts, numbers), true
	}
	return command{}, false
}

func parseOf(text string) ([]command, api.Errno) {
	if longOf(text) {
		return nil, 3
	}
	var l []command
	for _, line := range linesOf(text) {
		if line == "" || line[0] == '#' {
			continue
		}
		c, ok := commandOf(line)
		if !ok {
			return nil, 110
		}
		l = append(l, c)
	}
	return l, 0
}

func quoteOf(s string) string {
	var told strings.Builder
	for _, c := range []byte(s) {
		switch {
		case c == '"':
			told.WriteString(`\"`)
		case c == '\\':
			told.WriteString(`\\`)
		case c < 32 || c > 126:
			fmt.Fprintf(&told, `\x%02x`, c)
		default:
			told.WriteByte(c)
		}
	}
	return `"` + told.String() + `"`
}

// rowOf is the row of a command's kinds.
func rowOf(c command) (row, bool) {
	for _, r := range rows {
		if r.kind == c.Kind && (c.Kind != script.Step || r.step == c.Step.Kind) {
			return r, true
		}
	}
	return row{}, false
}

// lineOf is a row's line of texts, as quote tells them, and numbers.
func lineOf(r row, c command, quote func(s string) string) string {
	line := []string{r.name()}
	for _, w := range r.words(c) {
		if text, ok := w.(string); ok {
			line = append(line, quote(text))
		} else {
			line = append(line, fmt.Sprint(w))
		}
	}
	return strings.Join(line, " ")
}

func printOf(l []command) (string, api.Errno) {
	var text strings.Builder
	for _, c := range l {
		r, ok := rowOf(c)
		if !ok {
			return "", 110
		}
		text.WriteString(lineOf(r, c, quoteOf) + "\n")
	}
	if longOf(text.String()) {
		return "", 3
	}
	return text.String(), 0
}

// bare is a command with all zero that its kinds don't name.
func bare(c command) command {
	r, ok := rowOf(c)
	if !ok {
		panic("no row")
	}
	var texts []string
	var numbers []int64
	for _, w := range r.words(c) {
		switch x := w.(type) {
		case string:
			texts = append(texts, x)
		case int:
			numbers = append(numbers, int64(x))
		case int64:
			numbers = append(numbers, x)
		}
	}
	return r.command(texts, numbers)
}

func bareAll(l []command) []command {
	var all []command
	for _, c := range l {
		all = append(all, bare(c))
	}
	return all
}

func same(a, b command) bool {
	s, o := a.Step, b.Step
	return a.Kind == b.Kind && a.Sectors == b.Sectors && a.Size == b.Size && a.Bucket == b.Bucket &&
		s.Kind == o.Kind && s.Bucket == o.Bucket && s.Key == o.Key && s.Data == o.Data && s.Seq == o.Seq && s.N == o.N &&
		slices.Equal(s.Meta, o.Meta) && slices.Equal(s.Kept, o.Kept)
}

func sameAll(a, b []command) bool { return slices.EqualFunc(a, b, same) }

// short is commands as a text, of which not too much is shown: it is cut ahead of
// being told, since some are very long.
func short(l ...command) string {
	var told []string
	for _, c := range l[:min(len(l), 9)] {
		s := &c.Step
		for _, text := range []*string{&c.Bucket, &s.Bucket, &s.Key, &s.Data} {
			*text = cut(*text)
		}
		meta := slices.Clone(s.Meta[:min(len(s.Meta), 5)])
		for i, p := range meta {
			meta[i] = api.Pair{Name: cut(p.Name), Value: cut(p.Value)}
		}
		s.Meta, s.Kept = meta, s.Kept[:min(len(s.Kept), 9)]
		told = append(told, fmt.Sprintf("%+q", fmt.Sprintf("%+v", c)))
	}
	return fmt.Sprint(len(l), " of ", strings.Join(told, ", "))
}

func cut(text string) string { return text[:min(len(text), 40)] }

// wantParse: Parse answers as the chapter says; what it reads is printed and
// read as the same.
func wantParse(t *testing.T, what, text string) {
	t.Helper()
	want, wantErr := parseOf(text)
	got, err := script.Parse(text)
	if !sameAll(got, want) || err != wantErr {
		t.Errorf("P22.1: %s: Parse(%.300q) = %s, %d, want %s, %d", what, text, short(got...), err, short(want...), wantErr)
		return
	}
	if err != api.OK || len(got) == 0 {
		return
	}
	told := wantPrint(t, what, got)
	if again, err := script.Parse(told); told != "" && (err != api.OK || !sameAll(again, got)) {
		t.Errorf("P22.2: %s: Parse(%.300q), Print and Parse = %s, %d, want %s", what, text, short(again...), err, short(got...))
	}
}

// wantRead: a text is read as these commands.
func wantRead(t *testing.T, what, text string, want ...command) {
	t.Helper()
	if got, err := script.Parse(text); err != api.OK || !sameAll(got, want) {
		t.Errorf("P22.1: %s: Parse(%.300q) = %s, %d, want %s", what, text, short(got...), err, short(want...))
	}
	wantParse(t, what, text)
}

// wantRefused: a text is refused with this error.
func wantRefused(t *testing.T, what, text string, want api.Errno) {
	t.Helper()
	if got, err := script.Parse(text); err != want || len(got) > 0 {
		t.Errorf("P22.1: %s: Parse(%.300q) = %s, %d, want nothing, %d", what, text, short(got...), err, want)
	}
	wantParse(t, what, text)
}

// wantPrint: Print answers as the chapter says, and what it tells is read as the
// same commands; it is what is told.
func wantPrint(t *testing.T, what string, l []command) string {
	t.Helper()
	want, wantErr := printOf(l)
	got, err := script.Print(l)
	if got != want || err != wantErr {
		t.Errorf("P22.1: %s: Print(%s) = %.300q, %d, want %.300q, %d", what, short(l...), got, err, want, wantErr)
	}
	if err != api.OK {
		return got
	}
	if again, err := script.Parse(got); err != api.OK || !sameAll(again, bareAll(l)) {
		t.Errorf("P22.2: %s: Parse(%.300q) = %s, %d, want %s", what, got, short(again...), err, short(bareAll(l)...))
	}
	return got
}

// wantNotPrinted: Print refuses commands with this error.
func wantNotPrinted(t *testing.T, what string, l []command, want api.Errno) {
	t.Helper()
	if got, err := script.Print(l); err != want || got != "" {
		t.Errorf("P22.1: %s: Print(%s) = %.300q, %d, want nothing, %d", what, short(l...), got, err, want)
	}
}

// source is where numbers come from that look like chance, and are the same each
// time.
type source struct{ state uint64 }

func seed(n int) *source { return &source{uint64(n)} }

func (x *source) below(n int) int {
	x.state = x.state*6364136223846793005 + 1442695040888963407
	return int((x.state >> 33) % uint64(n))
}

func pick[T any](x *source, l ...T) T { return l[x.below(len(l))] }

// text is one of up to most bytes, of all bytes or of those that ask for care.
func (x *source) text(most int) string {
	n := x.below(most + 1)
	all := x.below(3) == 0
	var b []byte
	for range n {
		if all {
			b = append(b, byte(x.below(256)))
		} else {
			b = append(b, pick(x, []byte("\"\\ x0fa#\n\t\x7f~!\xff")...))
		}
	}
	return string(b)
}

func (x *source) number() int64 {
	switch x.below(4) {
	case 0:
		return int64(x.below(12)) - 3
	case 1:
		return pick[int64](x, least, least+1, -10, -1, 0, 1, 10, 99, 100, greatest-1, greatest)
	}
	n := int64(x.below(1<<31))<<32 | int64(x.below(1<<31))
	return n >> x.below(63)
}

// full is a command of some kind, all fields set, be they named or not.
func (x *source) full() command {
	r := pick(x, rows...)
	c := command{Kind: r.kind, Sectors: int(x.number()), Size: int(x.number()), Bucket: x.text(9)}
	c.Step = world.Step{Kind: r.step, Bucket: x.text(9), Key: x.text(9), Data: x.text(30), Seq: x.number(), N: int(x.number())}
	for range x.below(4) {
		c.Step.Meta = append(c.Step.Meta, api.Pair{Name: x.text(5), Value: x.text(9)})
		c.Step.Kept = append(c.Step.Kept, int(x.number()))
	}
	if c.Kind != script.Step {
		c.Step.Kind = x.below(25) - 3
	}
	return c
}

func (x *source) commands(most int) []command {
	var l []command
	for range x.below(most + 1) {
		l = append(l, x.full())
	}
	return l
}

// quoted is a text in quotes in some form, which need not be its one.
func (x *source) quoted(s string) string {
	told := ""
	for _, c := range []byte(s) {
		switch {
		case c < 32 || c > 126 || x.below(4) == 0:
			told += fmt.Sprintf(`\x%02x`, c)
		case c == '"' || c == '\\':
			told += `\` + string(rune(c))
		default:
			told += string(rune(c))
		}
	}
	return `"` + told + `"`
}

// silent is some lines that say nothing.
func (x *source) silent(most int) string {
	text := ""
	for range x.below(most + 1) {
		text += pick(x, "\n", "#\n", "# up\n", "#up\n", "##\n", "#\x00\t\r\xff\"\n", "# make \"a\"\n", "#"+strings.Repeat(" ", 50)+"\n")
	}
	return text
}

// script is the text of commands in some form, lines that say nothing among
// them, and these commands.
func (x *source) script(most int) (string, []command) {
	l := bareAll(x.commands(most))
	text := x.silent(2)
	for _, c := range l {
		r, _ := rowOf(c)
		text += lineOf(r, c, x.quoted) + "\n" + x.silent(2)
	}
	if x.below(2) == 0 {
		text = strings.TrimSuffix(text, "\n")
	}
	return text, l
}
