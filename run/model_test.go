package run_test

import (
	"crypto/sha256"
	"fmt"
	"maps"
	"slices"
	"strings"
	"testing"

	"coffer/api"
	"coffer/archive"
	"coffer/bucket"
	"coffer/delta"
	"coffer/names"
	"coffer/run"
	"coffer/script"
	"coffer/world"
)

// The chapter's words once more: what commands tell of a world, which is either
// one of layer 21, or, where the power stays and there is room, just values.

type command = script.Command

const (
	most = 1048576
	w    = "world 8192 2048\n"
)

// asked is what a world is asked for.
type asked interface {
	do(s world.Step) world.Told
	value(name string) (api.Bucket, api.Errno)
	names() []string
	export(name string) (string, api.Errno)
	up() bool
	shelf() int
}

// real is a world of layer 21.
type real struct{ *world.World }

func (r real) do(s world.Step) world.Told                { return r.Do(s) }
func (r real) value(name string) (api.Bucket, api.Errno) { return r.Store().Value(name) }
func (r real) names() []string                           { return r.Store().Names() }
func (r real) export(name string) (string, api.Errno)    { return r.Store().Export(name) }
func (r real) up() bool                                  { return r.Up() }
func (r real) shelf() int                                { return len(r.Shelf()) }

// values is a world that is always up and has always room: named values of layer
// 15, and archives of layers 18 and 19.
type values struct {
	named    map[string]api.Bucket
	archives []string
}

func (m *values) up() bool        { return true }
func (m *values) shelf() int      { return len(m.archives) }
func (m *values) names() []string { return slices.Sorted(maps.Keys(m.named)) }

func (m *values) value(name string) (api.Bucket, api.Errno) {
	b, there := m.named[name]
	if err := names.Bucket(name); err != api.OK || there {
		return b, err
	}
	return b, api.ErrBucket
}

func (m *values) export(name string) (string, api.Errno) {
	b, err := m.value(name)
	if err != api.OK {
		return "", err
	}
	return archive.Encode(b)
}

func (m *values) do(s world.Step) world.Told {
	switch s.Kind {
	case world.Names:
		return world.Told{Names: m.names()}
	case world.ImportShelf, world.ApplyShelf:
		if s.N < 0 || s.N >= len(m.archives) {
			return world.Told{Err: api.ErrArg}
		}
		s.Kind, s.Data = s.Kind-world.ImportShelf+world.Import, m.archives[s.N]
	case world.Fall:
		if s.N > 0 {
			panic("the power goes")
		}
		return world.Told{}
	case world.Crash:
		return world.Told{}
	}
	switch b, err := m.value(s.Bucket); {
	case err == api.ErrName:
		return world.Told{Err: err}
	case s.Kind == world.Make:
		return world.Told{Err: m.begin(s.Bucket, err == api.OK, bucket.New())}
	case s.Kind == world.Import:
		is, wrong := archive.Decode(s.Data)
		if wrong != api.OK {
			return world.Told{Err: wrong}
		}
		return world.Told{Err: m.begin(s.Bucket, err == api.OK, is)}
	default:
		return m.doWith(s, b, err)
	}
}

// begin is a new bucket.
func (m *values) begin(name string, there bool, b api.Bucket) api.Errno {
	switch {
	case there:
		return api.ErrExists
	case len(m.named) == 8:
		return api.ErrBuckets
	}
	m.named[name] = b
	return api.OK
}

// doWith does a step that asks for a bucket, which has this value if there is
// one.
func (m *values) doWith(s world.Step, b api.Bucket, missing api.Errno) world.Told {
	if err := wrongIn(s); err != api.OK {
		return world.Told{Err: err}
	}
	if missing != api.OK {
		return world.Told{Err: missing}
	}
	var told world.Told
	is := b
	switch s.Kind {
	case world.Drop:
		delete(m.named, s.Bucket)
		return told
	case world.Put:
		is, told.Seq, told.Err = bucket.Put(b, s.Key, s.Data, s.Meta)
	case world.Delete:
		is, told.Seq, told.Err = bucket.Delete(b, s.Key)
	case world.Remove:
		is, told.Err = bucket.DeleteVersion(b, s.Key, s.Seq)
	case world.Get:
		told.Version, told.Err = bucket.Get(b, s.Key)
	case world.GetVersion:
		told.Version, told.Err = bucket.GetVersion(b, s.Key, s.Seq)
	case world.List:
		told.Rows = bucket.List(b, s.Key, s.N)
	case world.Versions:
		told.Rows = bucket.Versions(b, s.Key, s.N)
	case world.Export:
		told.Bytes, told.Err = archive.Encode(b)
	case world.Since:
		told.Bytes, told.Err = since(b, s.Seq)
	case world.Apply:
		d, _ := delta.Decode(s.Data)
		is, told.Err = delta.Apply(b, d)
	}
	if told.Err == api.OK {
		m.named[s.Bucket] = is
	}
	if told.Bytes != "" {
		m.archives = append(m.archives, told.Bytes)
	}
	return told
}

// wrongIn is what is wrong with a step's key, data and metadata, which is told
// ahead of whether its bucket is there.
func wrongIn(s world.Step) api.Errno {
	switch s.Kind {
	case world.Put:
		return names.Version(api.Version{Key: s.Key, Data: s.Data, Meta: s.Meta})
	case world.Delete, world.Remove, world.Get, world.GetVersion:
		return names.Key(s.Key)
	case world.Apply:
		_, err := delta.Decode(s.Data)
		return err
	}
	return api.OK
}

func since(b api.Bucket, m int64) (string, api.Errno) {
	d, err := delta.Since(b, m)
	if err != api.OK {
		return "", err
	}
	return delta.Encode(d)
}

// quoteOf is chapter 22's one form of a text.
func quoteOf(s string) string {
	var told strings.Builder
	for _, c := range []byte(s) {
		switch {
		case c == '"' || c == '\\':
			told.WriteString(`\` + string(rune(c)))
		case c < 32 || c > 126:
			fmt.Fprintf(&told, `\x%02x`, c)
		default:
			told.WriteByte(c)
		}
	}
	return `"` + told.String() + `"`
}

func versionOf(v api.Version) string {
	if v.Marker {
		return fmt.Sprintf("version %s %d marker\n", quoteOf(v.Key), v.Seq)
	}
	told := fmt.Sprintf("version %s %d data %s\n", quoteOf(v.Key), v.Seq, quoteOf(v.Data))
	for _, p := range v.Meta {
		told += fmt.Sprintf("meta %s %s\n", quoteOf(p.Name), quoteOf(p.Value))
	}
	return told
}

// stepOf is the table's rows of steps.
func stepOf(kind int, got world.Told) string {
	told := ""
	switch {
	case got.Err != 0:
		return fmt.Sprintf("err %d\n", int(got.Err))
	case kind == 3 || kind == 4:
		return fmt.Sprintf("ok %d\n", got.Seq)
	case kind == 6 || kind == 7:
		return "ok\n" + versionOf(got.Version)
	case kind == 8 || kind == 9:
		told = fmt.Sprintf("ok %d\n", len(got.Rows))
		for _, r := range got.Rows {
			if r.Marker {
				told += fmt.Sprintf("row %s %d marker\n", quoteOf(r.Key), r.Seq)
			} else {
				told += fmt.Sprintf("row %s %d data %d\n", quoteOf(r.Key), r.Seq, r.Size)
			}
		}
		return told
	case kind == 10:
		told = fmt.Sprintf("ok %d\n", len(got.Names))
		for _, name := range got.Names {
			told += fmt.Sprintf("name %s\n", quoteOf(name))
		}
		return told
	case kind == 11 || kind == 12:
		return fmt.Sprintf("ok %d %x\n", len(got.Bytes), sha256.Sum256([]byte(got.Bytes)))
	}
	return "ok\n"
}

func valueOf(m asked, name string) string {
	if !m.up() {
		return "err 9\n"
	}
	b, err := m.value(name)
	if err != 0 {
		return fmt.Sprintf("err %d\n", int(err))
	}
	told := fmt.Sprintf("ok %d %d\n", b.Next, len(b.Versions))
	for _, v := range b.Versions {
		told += versionOf(v)
	}
	return told
}

func digestOf(m asked) string {
	if !m.up() {
		return "err 9\n"
	}
	l := m.names()
	slices.Sort(l)
	told := fmt.Sprintf("ok %d\n", len(l))
	for _, name := range l {
		text, err := m.export(name)
		if err != 0 {
			return fmt.Sprintf("err %d\n", int(err))
		}
		told += fmt.Sprintf("digest %s %x\n", quoteOf(name), sha256.Sum256([]byte(text)))
	}
	return told
}

func upOf(m asked) string {
	if m.up() {
		return fmt.Sprintf("ok yes %d\n", m.shelf())
	}
	return fmt.Sprintf("ok no %d\n", m.shelf())
}

// taleOf is what commands tell of a world, of each its lines.
func taleOf(m asked, l []command) []string {
	var tale []string
	size := 0
	for _, c := range l {
		var lines string
		switch c.Kind {
		case 1:
			lines = "ok\n"
		case 2:
			lines = stepOf(c.Step.Kind, m.do(c.Step))
		case 3:
			lines = valueOf(m, c.Bucket)
		case 4:
			lines = digestOf(m)
		case 5:
			lines = upOf(m)
		}
		if size+len(lines) > most {
			lines = "err 3\n"
		}
		size += len(lines)
		tale = append(tale, lines)
	}
	return tale
}

// commandsOf is the commands of a text that may be played, by the chapter's
// words, but for the world.
func commandsOf(text string) ([]command, bool) {
	l, err := script.Parse(text)
	if err != api.OK || len(l) == 0 {
		return nil, false
	}
	for i, c := range l {
		if (c.Kind == script.World) != (i == 0) {
			return nil, false
		}
	}
	return l, true
}

// playOf is what the chapter says of a text.
func playOf(text string) ([]string, api.Errno) {
	l, ok := commandsOf(text)
	if !ok {
		return nil, 110
	}
	w, err := world.New(l[0].Sectors, l[0].Size)
	if err != api.OK {
		return nil, 110
	}
	return taleOf(real{w}, l), 0
}

// valuesOf is what commands tell of values, where the power stays.
func valuesOf(l []command) []string {
	return taleOf(&values{named: map[string]api.Bucket{}}, l)
}

func wantSame(t *testing.T, what, text, got, want string) {
	t.Helper()
	if got == want {
		return
	}
	at := 0
	for at < min(len(got), len(want)) && got[at] == want[at] {
		at++
	}
	from := max(at-60, 0)
	t.Fatalf("%s: Play(%.2000q) tells %d bytes, want %d; from byte %d on %.200q, want %.200q", what, text, len(got), len(want), from, got[from:], want[from:])
}

// wantPlay: Play answers as the chapter says; a second time the same, and of the
// text's own form; and its lines begin as they should. It is what each command
// has told.
func wantPlay(t *testing.T, what, text string) []string {
	t.Helper()
	want, wantErr := playOf(text)
	got, err := run.Play(text)
	if err != wantErr {
		t.Fatalf("P23.1: %s: Play(%.300q): %d, want %d", what, text, err, wantErr)
	}
	wantSame(t, "P23.1: "+what, text, got, strings.Join(want, ""))
	again, err := run.Play(text)
	if err != wantErr {
		t.Fatalf("P23.2: %s: Play(%.300q), again: %d, want %d", what, text, err, wantErr)
	}
	wantSame(t, "P23.2: again: "+what, text, again, got)
	if err == api.OK {
		wantForm(t, what, text, got)
		wantBeginnings(t, what, got, len(want))
	}
	return want
}

// wantForm: the own form of a text that may be played tells the same.
func wantForm(t *testing.T, what, text, told string) {
	t.Helper()
	l, _ := script.Parse(text)
	form, err := script.Print(l)
	if err != api.OK {
		return
	}
	got, err := run.Play(form)
	if err != api.OK {
		t.Fatalf("P23.2: %s: Play of the own form of %.300q: %d", what, text, err)
	}
	wantSame(t, "P23.2: the own form: "+what, form, got, told)
}

// wantBeginnings: one line for each command begins with ok or err, all others as
// the chapter says, and each ends.
func wantBeginnings(t *testing.T, what, told string, commands int) {
	t.Helper()
	if !strings.HasSuffix(told, "\n") {
		t.Fatalf("P23.5: %s: what is told ends with %.40q", what, told[max(len(told)-40, 0):])
	}
	answers := 0
	for line := range strings.Lines(told) {
		first, _, _ := strings.Cut(strings.TrimSuffix(line, "\n"), " ")
		switch first {
		case "ok", "err":
			answers++
		case "version", "meta", "row", "name", "digest":
		default:
			t.Fatalf("P23.5: %s: a line %.100q", what, line)
		}
	}
	if answers != commands {
		t.Fatalf("P23.5: %s: %d lines with ok or err, of %d commands", what, answers, commands)
	}
}

// lines are some, each of which stands between two of "; ", as a text.
func lines(s string) string {
	if s == "" {
		return ""
	}
	return strings.ReplaceAll(s, "; ", "\n") + "\n"
}

// tells: behind a great world the commands tell these lines, each between two of
// "; ".
func tells(t *testing.T, commands, want string) {
	t.Helper()
	got, err := run.Play(w + lines(commands))
	if err != api.OK {
		t.Fatalf("P23.1: Play of w; %.300s: %d", commands, err)
	}
	wantSame(t, "P23.1", commands, got, "ok\n"+lines(want))
	wantPlay(t, commands, w+lines(commands))
}

// packed is the archive of a value and a number that have one.
func packed(b api.Bucket, since int64) string {
	s, err := archive.Pack(b, since)
	if err != api.OK {
		panic(fmt.Sprintf("no archive of %+v since %d", b, since))
	}
	return s
}

// of is a value of these versions.
func of(next int64, l ...api.Version) api.Bucket { return api.Bucket{Next: next, Versions: l} }

// exported is the length and the hash of an archive.
func exported(text string) string { return fmt.Sprintf("%d %s", len(text), hashed(text)) }

func hashed(text string) string { return fmt.Sprintf("%x", sha256.Sum256([]byte(text))) }

func pairs(l ...string) []api.Pair {
	var all []api.Pair
	for i := 0; i+1 < len(l); i += 2 {
		all = append(all, api.Pair{Name: l[i], Value: l[i+1]})
	}
	return all
}

func times(n int, letter string) string { return strings.Repeat(letter, n) }

// printed is the text of commands.
func printed(t *testing.T, l []command) string {
	t.Helper()
	text, err := script.Print(l)
	if err != api.OK {
		t.Fatalf("Print of %d commands: %d", len(l), err)
	}
	return text
}

// source is where numbers come from that look like chance, and are the same each
// time.
type source struct{ state uint64 }

func seed(n int) *source { return &source{uint64(n)} }

func (x *source) below(n int) int {
	x.state = x.state*6364136223846793005 + 1442695040888963407
	return int((x.state >> 33) % uint64(n))
}

func pick[T any](x *source, l ...T) T { return l[x.below(len(l))] }

// text has up to so many bytes, of all bytes or of those that ask for care.
func (x *source) text(most int) string {
	b := make([]byte, x.below(most+1))
	all := x.below(2) == 0
	for i := range b {
		if all {
			b[i] = byte(x.below(256))
		} else {
			b[i] = pick(x, []byte("\"\\ x0fa#\n\t\x7f~!\xff")...)
		}
	}
	return string(b)
}

func (x *source) meta() []api.Pair {
	var l []api.Pair
	for _, name := range []string{"-", "0", "a-b", "z"} {
		if x.below(5) == 0 {
			l = append(l, api.Pair{Name: name, Value: x.text(6)})
		}
	}
	if x.below(40) == 0 {
		return pairs("b", "", "a", "")
	}
	return l
}

// archive is a text that is mostly an archive.
func (x *source) archive() string {
	first := int64(x.below(5) + 1)
	b := of(first)
	for range x.below(4) {
		if x.below(4) == 0 {
			b, _, _ = bucket.Delete(b, pick(x, "k", "j"))
		} else {
			b, _, _ = bucket.Put(b, pick(x, "k", "j", "\x00"), x.text(9), nil)
		}
	}
	switch x.below(6) {
	case 0:
		return x.text(20)
	case 1, 2:
		return packed(b, 0)
	}
	return packed(b, first)
}

// command is any but a world, mostly one that goes where there are the values of
// m; where the power shall stay it does.
func (x *source) command(m *values, stays bool) command {
	switch x.below(14) {
	case 0:
		return command{Kind: script.Value, Bucket: x.bucket(m)}
	case 1:
		return command{Kind: script.Digest}
	case 2:
		return command{Kind: script.Up}
	case 3:
		return command{Kind: script.Step, Step: x.power(stays)}
	}
	s := x.step(m)
	switch x.below(100) {
	case 0, 1:
		s.Key = pick(x, "", times(33, "k"))
	case 2:
		s.Data = times(1025, "d")
	case 3:
		s.Seq = pick[int64](x, -9223372036854775808, -1, 0, 9, 9223372036854775807)
	case 4:
		s.N = pick(x, -9223372036854775808, -1, 0, 9, 9223372036854775807)
	}
	return command{Kind: script.Step, Step: s}
}

// power is a step in which the power comes or goes, or shall stay.
func (x *source) power(stays bool) world.Step {
	if stays {
		return world.Step{Kind: pick(x, world.Fall, world.Crash), Kept: []int{x.below(3)}}
	}
	if x.below(2) == 0 {
		return world.Step{Kind: world.Fall, N: x.below(14) - 1}
	}
	s := world.Step{Kind: world.Crash, N: pick(x, -1, 0, 0, 0, 1, 2, 9)}
	for range x.below(6) {
		s.Kept = append(s.Kept, x.below(9)-1)
	}
	return s
}

// step is one of the kinds 1 to 16.
func (x *source) step(m *values) world.Step {
	s := world.Step{Kind: 1 + x.below(16), Bucket: x.bucket(m), Key: pick(x, "k", "k", "j", "\x00", "kk", "\"\\"), Seq: int64(x.below(6)), N: x.below(6)}
	s.Data, s.Meta = x.text(pick(x, 10, 40, 600)), x.meta()
	if s.Kind == world.Drop && x.below(5) > 0 {
		s.Kind = pick(x, world.Make, world.Put)
	}
	if isNew := s.Kind == world.Make || s.Kind == world.Import || s.Kind == world.ImportShelf; isNew && x.below(3) > 0 {
		s.Bucket = x.bucket(&values{})
	}
	b := m.named[s.Bucket]
	if l := b.Versions; len(l) > 0 && x.below(4) > 0 {
		v := l[x.below(len(l))]
		s.Key, s.Seq = v.Key, v.Seq
	}
	switch s.Kind {
	case world.Import, world.Apply:
		s.Data = x.archive()
	case world.Since:
		s.Seq = pick(x, s.Seq, 1, b.Next)
	case world.ImportShelf, world.ApplyShelf:
		s.N = x.below(len(m.archives)+2) - 1
	}
	return s
}

// bucket is one that is there, or any.
func (x *source) bucket(m *values) string {
	if l := m.names(); len(l) > 0 && x.below(3) > 0 {
		return pick(x, l...)
	}
	if x.below(8) == 0 {
		return pick(x, "", "A", "a b", times(33, "n"), "\x00")
	}
	return pick(x, "a", "a", "a-", "b", "b", "c", times(32, "n"), "d", "e", "f", "g", "h")
}

// commands are a world and up to so many others. What they find there is guessed
// where the power doesn't stay.
func (x *source) commands(sectors, size, most int, stays bool) []command {
	l := []command{{Kind: script.World, Sectors: sectors, Size: size}}
	m := &values{named: map[string]api.Bucket{}}
	for range x.below(most + 1) {
		c := x.command(m, stays)
		if c.Kind == script.Step && c.Step.Kind < world.Fall {
			m.do(c.Step)
		}
		l = append(l, c)
	}
	return l
}
