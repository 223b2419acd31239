package backup_test

import (
	"fmt"
	"iter"
	"slices"
	"strings"
	"testing"

	"coffer/api"
	"coffer/archive"
	"coffer/backup"
)

// samples are right values of all kinds that are not great.
func samples() []api.Bucket {
	return []api.Bucket{
		of(1),
		of(12),
		of(maxNext),
		of(3, gone("k", 1)),
		of(9, v("a", 3), gone("a", 8), v("ab", 1)),
		of(9, api.Version{Key: "\n=\x00", Seq: 8}, api.Version{Key: "\n=\x00=", Seq: 7, Data: times(65, "="), Meta: pairs("-", "=\n", "a", "", "ab", "7 end=\n")}),
	}
}

// texts are texts that are about an archive: cut short at each byte, without
// their beginning, with each byte turned, with anything behind.
func texts(s string) iter.Seq2[string, string] {
	return func(yield func(what, text string) bool) {
		for at, c := range []byte(s) {
			for _, one := range []struct{ what, text string }{
				{"cut short", s[:at]}, {"without its beginning", s[at:]}, {"without a byte", s[:at] + s[at+1:]}, {"with a byte twice", s[:at+1] + s[at:]},
				{"turned over", turned(s, at, ^c)}, {"one bit", turned(s, at, c^1)}, {"another bit", turned(s, at, c^0x40)}, {"one more", turned(s, at, c+1)},
				{"0", turned(s, at, '0')}, {"9", turned(s, at, '9')}, {"zero", turned(s, at, 0)},
			} {
				if !yield(fmt.Sprint(one.what, " at ", at), one.text) {
					return
				}
			}
		}
		for _, more := range []string{"\x00", "\n", "x", "\xff", times(64, "\x00"), "11 since=1\n", "13 length=68\n", s, times(1<<16, "\x00")} {
			if !yield(fmt.Sprintf("behind it %.9q", more), s+more) || !yield(fmt.Sprintf("ahead of it %.9q", more), more+s) {
				return
			}
		}
	}
}

// takes: a text imported under a right name that isn't there is ErrMalformed, or
// exports as just itself; the other buckets are as they were. It tells whether it
// was taken.
func takes(t *testing.T, what string, s *backup.Store, m model, text string) bool {
	t.Helper()
	err := s.Import("new", text)
	if _, since, unpackErr := archive.Unpack(text); (unpackErr == 0 && since == 0) != (err == 0) {
		t.Fatalf("P20.3: %s: Import of %.400q: %d, it is an archive: %d, since %d", what, text, err, unpackErr, since)
	}
	if err != api.OK {
		wants(t, "P20.3: "+what, err, 90)
		return false
	}
	if again, err := s.Export("new"); again != text || err != api.OK {
		t.Fatalf("P20.3: %s: %.400q, imported, exports as %.400q, %d", what, text, again, err)
	}
	b, _ := archive.Decode(text)
	holds(t, "P20.3: "+what, s, m.with("new", b))
	wants(t, "Drop", s.Drop("new"), api.OK)
	return true
}

// TestImport: texts of all kinds, under a name that isn't there, one that is and
// one that isn't right.
func TestImport(t *testing.T) {
	m := model{"a": of(9, v("k", 7)), "b": of(1)}
	_, s := great(t, m)
	taken := 0
	for _, b := range samples() {
		text := packed(b, 0)
		if !takes(t, "as it is", s, m, text) {
			t.Fatalf("P20.3: %q is not taken", text)
		}
		for what, other := range texts(text) {
			if takes(t, what, s, m, other) && other != text {
				taken++
			}
			if strings.HasPrefix(what, "cut short") || strings.HasPrefix(what, "behind") {
				wants(t, "P20.3: "+what, s.Import("new", other), 90)
				wants(t, "P20.1: "+what, s.Import("a", other), 90)
				wants(t, "P20.1: "+what, s.Import("A", other), 60)
			}
		}
		for since := int64(1); since <= 4; since++ {
			d := part(b, func(seq int64) bool { return seq >= since })
			if since <= b.Next && takes(t, "a delta's archive", s, m, packed(d, since)) {
				t.Fatalf("P20.3: the archive of a delta since %d is taken", since)
			}
		}
		wants(t, "P20.1: a name that is there", s.Import("a", text), 71)
	}
	// Another Next is another value, whose archive differs in that digit alone.
	if taken == 0 {
		t.Error("of the changed texts none is another value's archive")
	}
	holds(t, "P20.5: behind all texts", s, m)
}

// TestImportAny: texts that have nothing to do with archives, or only begin as one.
func TestImportAny(t *testing.T) {
	x := seed(1)
	m := model{"a": of(9, v("k", 7))}
	_, s := great(t, m)
	for range 3000 {
		text := x.text(x.below(300))
		if x.below(2) == 0 {
			text = one(x, "13 kind=full\n", "13 kind=full\n19 format=coffer-1\n", "14 kind=delta\n", packed(of(1), 0)[:68]) + text
		}
		takes(t, "any bytes", s, m, text)
		if err := s.Apply("a", text); err != api.ErrMalformed {
			t.Fatalf("P20.1: Apply of any bytes %q: %d", text, err)
		}
	}
	holds(t, "P20.5: behind any bytes", s, m)
}

// TestNames: archives under names that are right, and that aren't.
func TestNames(t *testing.T) {
	whole, delta := packed(of(3, v("k", 2)), 0), packed(of(4, v("k", 3)), 3)
	m := model{}
	d, s := great(t, m)
	long := times(32, "n")
	for _, name := range []string{"", "A", "a b", "a.b", "a\x00", "é", "\xff", times(33, "n"), times(1<<20, "n"), "a", "-", "0", "-9z", long} {
		for _, text := range []string{"", "x", whole, delta} {
			m = answers(t, "names", s, m, call{kind: "Import", name: name, text: text})
			m = answers(t, "names", s, m, call{kind: "Apply", name: name, text: text})
		}
		m = answers(t, "names", s, m, call{kind: "Export", name: name})
		m = answers(t, "names", s, m, call{kind: "ExportSince", name: name, seq: 3})
	}
	if want := []string{"-", "-9z", "0", "a", long}; !slices.Equal(m.names(), want) {
		t.Errorf("names: %q, want %q", m.names(), want)
	}
	tells(t, "names", opens(t, "names", d, 2048), m)
}

// TestBuckets: with as many buckets as may be an archive makes no other one, till
// one is dropped.
func TestBuckets(t *testing.T) {
	text := packed(of(3, v("k", 2)), 0)
	_, s := great(t, nil)
	m := model{}
	for n := range 8 {
		m = answers(t, "buckets", s, m, call{kind: one(seed(n), "Make", "Import"), name: fmt.Sprint(n), text: text})
	}
	for _, c := range []struct {
		name, text string
		want       api.Errno
	}{{"A", "x", 60}, {"new", "x", 90}, {"3", "x", 90}, {"3", text, 71}, {"new", text, 77}, {"new", packed(of(4), 3), 90}} {
		wants(t, "P20.1: eight buckets: "+c.name, s.Import(c.name, c.text), c.want)
	}
	wants(t, "P20.1: Make", s.Make("new"), 77)
	tells(t, "P20.5: eight buckets", s, m)
	m = answers(t, "buckets", s, m, call{kind: "Apply", name: "5", text: packed(of(9, v("j", 7)), m["5"].Next)})
	m = answers(t, "buckets", s, m, call{kind: "Drop", name: "3"})
	m = answers(t, "buckets", s, m, call{kind: "Import", name: "new", text: text})
	m = answers(t, "buckets", s, m, call{kind: "Import", name: "newer", text: text})
	tells(t, "buckets", s, m)
}

// TestApplyMarker: a Since one below the bucket's Next, at it, one above, and far
// from it; with versions and without; a second time.
func TestApplyMarker(t *testing.T) {
	for what, b := range inOrderOf(values()) {
		if len(b.Versions) > 99 {
			continue
		}
		d, _ := great(t, model{"a": b, "other": of(2, v("k", 1))})
		for _, n := range []int64{1, b.Next - 1, b.Next, b.Next + 1, maxNext} {
			if n < 1 || n > maxNext {
				continue
			}
			deltas := []api.Bucket{of(n), of(maxNext)}
			if n < maxNext-3 {
				deltas = append(deltas, of(n+1), of(n+1, gone("k", n)), of(n+4, v("a", n+1), gone("a", n+3), v("z", n)))
			}
			for _, delta := range deltas {
				s := opens(t, what, d.Copy(), 2048)
				m := valuesOf(t, what, s)
				c := call{kind: "Apply", name: "a", text: packed(delta, n)}
				want, _ := c.by(m)
				if isNext := n == b.Next; (want.err == 91) == isNext || isNext && want.err != 0 && want.err != 76 {
					t.Fatalf("%s since %d: %d", what, n, want.err)
				}
				m = answers(t, "P20.4: "+what, s, m, c)
				holds(t, "P20.4: "+what, s, m)
				if want.err == 0 && n < delta.Next {
					wants(t, "P20.4: a second time", c.ask(s).err, 91)
				} else {
					m = answers(t, "P20.4: a second time", s, m, c)
				}
				tells(t, "P20.4: "+what, s, m)
			}
		}
	}
}

// TestApplyLimits: both together at as many versions as may be, and one more; at
// as many bytes, and one more, and which error is told where both are too many.
func TestApplyLimits(t *testing.T) {
	full, many, wide := of(257, list(256, "k", 1, 256)...), of(257, list(256, "k", 1, 33)...), of(65, list(64, "k", 1, 1024)...)
	for _, c := range []struct {
		what  string
		b, d  api.Bucket
		since int64
		want  api.Errno
	}{
		{"255 and 1", of(256, list(255, "k", 1, 33)...), of(257, gone("a", 256)), 256, 0},
		{"255 and 2", of(256, list(255, "k", 1, 33)...), of(258, gone("a", 256), gone("a", 257)), 256, 75},
		{"128 and 128", of(129, list(128, "k", 1, 33)...), of(257, list(128, "k", 129, 33)...), 129, 0},
		{"128 and 129", of(129, list(128, "k", 1, 33)...), of(258, list(129, "k", 129, 33)...), 129, 75},
		{"none and 256", of(7), of(300, list(256, "z", 7, 33)...), 7, 0},
		{"256 and none", many, of(999), 257, 0},
		{"256 and 1", many, of(999, gone("z", 300)), 257, 75},
		{"256 and 256", many, of(999, list(256, "z", 257, 33)...), 257, 75},
		{"all bytes", of(64, list(63, "k", 1, 1024)...), of(65, list(1, "a", 64, 1024)...), 64, 0},
		{"one byte more", of(64, list(63, "k", 1, 1024)...), of(65, list(1, "a", 64, 1025)...), 64, 76},
		{"one byte more in the bucket", of(64, append(list(62, "k", 1, 1024), list(1, "l", 63, 1025)...)...), of(65, list(1, "a", 64, 1024)...), 64, 76},
		{"all bytes, by metadata", of(64, list(63, "k", 1, 1024)...), of(65, api.Version{Key: "a", Seq: 64, Data: times(981, "d"), Meta: pairs("nn", times(8, "v"))}), 64, 0},
		{"one byte more, by metadata", of(64, list(63, "k", 1, 1024)...), of(65, api.Version{Key: "a", Seq: 64, Data: times(981, "d"), Meta: pairs("nn", times(9, "v"))}), 64, 76},
		{"all bytes and none", wide, of(999), 65, 0},
		{"all bytes and a marker", wide, of(999, gone("z", 65)), 65, 76},
		{"none and all bytes", of(9), of(999, list(64, "z", 9, 1024)...), 9, 0},
		{"count ahead of bytes", full, of(258, gone("k", 257)), 257, 75},
		{"count ahead of bytes", wide, of(999, list(193, "k", 65, 33)...), 65, 75},
		{"bytes alone", wide, of(999, list(192, "k", 65, 33)...), 65, 76},
		{"marker ahead of both", full, of(999, gone("k", 258)), 258, 91},
		{"marker ahead of both", full, of(258, list(2, "k", 256, 256)...), 256, 91},
		{"marker ahead of bytes", wide, of(999, gone("z", 66)), 66, 91},
		{"as full as may be, and none", full, of(257), 257, 0},
	} {
		d, s := great(t, model{"a": c.b, "other": of(2, v("k", 1))})
		m := valuesOf(t, c.what, s)
		apply := call{kind: "Apply", name: "a", text: packed(c.d, c.since)}
		if want, _ := apply.by(m); want.err != c.want {
			t.Fatalf("%s: %d by the words, want %d", c.what, want.err, c.want)
		}
		m = answers(t, c.what, s, m, apply)
		tells(t, "P20.1: "+c.what, s, m)
		holds(t, "P20.1: "+c.what+", opened anew", opens(t, c.what, d, 2048), m)
	}
}

// TestApplyTexts: texts that are about a delta's archive, cut short, turned and
// with anything behind; and a whole bucket's.
func TestApplyTexts(t *testing.T) {
	m := model{"a": of(5, v("a", 4), v("k", 1)), "b": of(1)}
	d, s := great(t, m)
	taken := 0
	for _, b := range []api.Bucket{of(5), of(9), of(7, gone("k", 5)), of(8, v("a", 7), gone("k", 5), v("l", 6))} {
		text := packed(b, 5)
		for what, other := range texts(text) {
			c := call{kind: "Apply", name: "a", text: other}
			want, behind := c.by(m)
			if want.err == api.OK {
				taken++
				on := opens(t, what, d.Copy(), 2048)
				answers(t, "P20.4: "+what, on, m, c)
				holds(t, "P20.4: "+what, on, behind)
				continue
			}
			answers(t, "P20.1: "+what, s, m, c)
			if strings.HasPrefix(what, "cut short") || strings.HasPrefix(what, "behind") {
				wants(t, "P20.1: "+what, s.Apply("a", other), 90)
				wants(t, "P20.1: "+what, s.Apply("none", other), 90)
				wants(t, "P20.1: "+what, s.Apply("A", other), 60)
			}
		}
		wants(t, "P20.1: a whole bucket's", s.Apply("a", packed(b, 0)), 90)
	}
	if taken == 0 {
		t.Error("of the changed texts none is another delta's archive")
	}
	tells(t, "P20.5: behind all texts", s, m)
}

// TestOdd: inputs out of the ordinary, and texts that are far too great.
func TestOdd(t *testing.T) {
	m := model{"a": of(9, v("\x00", 2), v("k", 7), v("\xff", 5)), "b": of(1)}
	_, s := great(t, m)
	whole := packed(filled(256, 65536, 32, 1), 0)
	if len(whole) > api.MaxArchive {
		t.Errorf("T6: an archive of %d bytes", len(whole))
	}
	for _, text := range []string{
		times(1<<24, "1"), times(1<<24, "\x00"), whole + times(1<<24, "\x00"), times(1<<20, "13 kind=full\n"), times(1<<17, packed(of(1), 0)),
		"99999999999999999999 kind=full\n", "13 kind=full\n19 format=coffer-1\n9 next=9\n17 count=9999999\n",
	} {
		for _, name := range []string{"a", "none", "", times(1<<22, "n")} {
			answers(t, "odd", s, m, call{kind: "Import", name: name, text: text})
			answers(t, "odd", s, m, call{kind: "Apply", name: name, text: text})
		}
	}
	for _, name := range []string{"a", "b", "none", "", times(1<<22, "a"), "\x00", "é"} {
		for _, n := range []int64{least, -1, 0, 1, 8, 9, 10, maxNext, greatest} {
			for _, kind := range looks {
				for _, key := range []string{"k", "", "\xff", times(1<<20, "k")} {
					answers(t, "odd", s, m, call{kind: kind, name: name, key: key, seq: n, most: int(n)})
				}
			}
		}
	}
	tells(t, "P20.5: odd", s, m)
}

// TestThereAndBack: stores of all kinds: each bucket exported and imported under
// another name has that very value, and the others are as before.
func TestThereAndBack(t *testing.T) {
	x := seed(2)
	for range 40 {
		m := model{"a": x.from(1, 12, 200), "a-": x.from(1, 5, 1024), "b": x.from(maxNext-int64(x.below(30)), 20, 30)}
		d, s := great(t, m)
		for _, name := range m.names() {
			text, err := s.Export(name)
			wants(t, "Export", err, api.OK)
			to := fmt.Sprint(name, "copy")
			wants(t, "Import", s.Import(to, text), api.OK)
			m = m.with(to, m[name])
			holds(t, "P20.2: there and back", s, m)
			if again, err := s.Export(to); again != text || err != api.OK {
				t.Fatalf("P20.2: exported again: %q, %d, want %q", again, err, text)
			}
			// They have nothing to do with one another.
			m = answers(t, "P20.2", s, m, call{kind: "Put", name: to, key: "k", data: "new"})
			m = answers(t, "P20.2", s, m, call{kind: "Drop", name: name})
			m = answers(t, "P20.2", s, m, call{kind: "Import", name: name, text: text})
			holds(t, "P20.2: there and back", s, m)
		}
		tells(t, "P20.2: there and back", opens(t, "there and back", d, 2048), m)
	}
}

// moment is what a bucket was when its Next was so.
type moment struct {
	value api.Bucket
	text  string // its export then
}

// lives does some things to a bucket, and is each of its moments; versions are
// removed that are a moment's at the earliest.
func lives(t *testing.T, x *texter, s *backup.Store, m model, steps int) (model, []moment) {
	t.Helper()
	var all []moment
	for range steps {
		text, err := s.Export("v")
		wants(t, "Export", err, api.OK)
		all = append(all, moment{m["v"], text})
		from := one(x, all...).value.Next
		for range x.below(4) {
			c := x.call(m, []string{"Put", "Put", "Delete", "DeleteVersion"}, 40)
			c.name = "v"
			if l := part(m["v"], func(seq int64) bool { return seq >= from }).Versions; c.kind == "DeleteVersion" && len(l) > 0 {
				v := one(x, l...)
				c.key, c.seq = v.Key, v.Seq
			}
			m = answers(t, "a life", s, m, c)
		}
	}
	return m, all
}

// TestMoments: what a bucket has since a moment laid on what it was then makes
// it, if nothing below was removed since, in one step and in two; on a bucket
// with another Next it is refused.
func TestMoments(t *testing.T) {
	x := seed(3)
	made, removed := 0, 0
	for range 12 {
		m := model{"v": of(1), "other": of(2, v("k", 1))}
		d, s := great(t, m)
		m, all := lives(t, x, s, m, 8)
		last := m["v"]
		for i, then := range all {
			n := then.value.Next
			whole := sameValue(then.value, of(n, part(last, func(seq int64) bool { return seq < n }).Versions...))
			s := opens(t, "a copy", d.Copy(), 2048)
			m := answers(t, "moments", s, m, call{kind: "Import", name: "u", text: then.text})
			text, err := s.ExportSince("v", n)
			wants(t, "ExportSince", err, api.OK)
			wants(t, "P20.4: Apply", s.Apply("u", text), api.OK)
			is, err := s.Value("u")
			wants(t, "Value", err, api.OK)
			if whole {
				made++
			} else {
				removed++
			}
			if whole != sameValue(is, last) {
				t.Fatalf("P20.4: since %d, laid on what it was, nothing was removed: %v, it makes %+v, want %+v", n, whole, is, last)
			}
			holds(t, "P20.4: the others", s, m.with("u", is))
			if n < last.Next {
				wants(t, "P20.4: a second time", s.Apply("u", text), 91)
			}
			for _, other := range all[i:] {
				inTwo(t, s, then, other, last)
			}
		}
	}
	if made == 0 || removed == 0 {
		t.Errorf("%d times nothing was removed, %d times something was", made, removed)
	}
}

// inTwo: where nothing was removed below, what the bucket was at one moment
// becomes what it was at another, and then what it is at last.
func inTwo(t *testing.T, s *backup.Store, first, second moment, last api.Bucket) {
	t.Helper()
	below := func(b api.Bucket, next int64) api.Bucket {
		return of(next, part(b, func(seq int64) bool { return seq < next }).Versions...)
	}
	m, n := first.value.Next, second.value.Next
	if !sameValue(first.value, below(second.value, m)) || !sameValue(second.value, below(last, n)) {
		return
	}
	wants(t, "Import", s.Import("one", first.text), api.OK)
	wants(t, "Import", s.Import("then", second.text), api.OK)
	step, err := s.ExportSince("then", m)
	wants(t, "ExportSince", err, api.OK)
	next, err := s.ExportSince("v", n)
	wants(t, "ExportSince", err, api.OK)
	if m != n {
		wants(t, "P20.4: the second step first", s.Apply("one", next), 91)
	}
	wants(t, "P20.4: the first step", s.Apply("one", step), api.OK)
	wants(t, "P20.4: the second step", s.Apply("one", next), api.OK)
	if is, err := s.Value("one"); !sameValue(is, last) || err != api.OK {
		t.Fatalf("P20.4: since %d by way of %d: %+v, %d, want %+v", m, n, is, err, last)
	}
	wants(t, "Drop", s.Drop("one"), api.OK)
	wants(t, "Drop", s.Drop("then"), api.OK)
}

// TestDropped: a bucket that was dropped and made again has other versions by the
// same numbers: where its Next is another one a delta is refused.
func TestDropped(t *testing.T) {
	_, s := great(t, model{"v": of(3, v("j", 1), v("k", 2))})
	m := valuesOf(t, "dropped", s)
	m = answers(t, "dropped", s, m, call{kind: "Import", name: "u", text: packed(m["v"], 0)})
	m = answers(t, "dropped", s, m, call{kind: "Drop", name: "v"})
	m = answers(t, "dropped", s, m, call{kind: "Make", name: "v"})
	if text, err := s.ExportSince("v", 3); text != "" || err != 1 {
		t.Errorf("P20.1: since 3, made again: %q, %d", text, err)
	}
	for range 4 {
		m = answers(t, "dropped", s, m, call{kind: "Put", name: "v", key: "k", data: "new"})
	}
	first, err := s.ExportSince("v", 1)
	wants(t, "ExportSince", err, api.OK)
	wants(t, "P20.4: of another Next", s.Apply("u", first), 91)
	tells(t, "dropped", s, m)
}
