package script_test

import (
	"fmt"
	"slices"
	"strings"
	"sync"
	"testing"

	"coffer/api"
	"coffer/script"
	"coffer/world"
)

func TestKindNumbers(t *testing.T) {
	if got := []int{script.World, script.Step, script.Value, script.Digest, script.Up}; !slices.Equal(got, []int{1, 2, 3, 4, 5}) {
		t.Errorf("P22.1: the kinds are %v", got)
	}
	if len(rows) != 22 {
		t.Errorf("the model's own tables have %d rows, want 4 and 18", len(rows))
	}
}

// TestExamples: the chapter's.
func TestExamples(t *testing.T) {
	wantRead(t, "example 1", "make \"a\"\nnames", stepOf(world.Step{Kind: world.Make, Bucket: "a"}), stepOf(world.Step{Kind: world.Names}))
	for _, text := range []string{"", "#x", "#x\n", "\n", "\n\n", "\n#x\n\n#x"} {
		wantRead(t, "example 1", text)
	}
	wantRead(t, "example 2", `put "a" "k" "d" "t" "x"`, stepOf(world.Step{Kind: world.Put, Bucket: "a", Key: "k", Data: "d", Meta: pairs("t", "x")}))
	wantRead(t, "example 2", "crash 3 0 2", stepOf(world.Step{Kind: world.Crash, N: 3, Kept: []int{0, 2}}))
	wantRead(t, "example 2", "crash -1", stepOf(world.Step{Kind: world.Crash, N: -1}))
	wantRead(t, "example 2", "world 8192 2048", command{Kind: script.World, Sectors: 8192, Size: 2048})
	for _, line := range []string{
		"make", "make a", `make "a" "b"`, "fall 03", "fall -0", "fall  3", "fall 3 ", " fall 3", "fall 9223372036854775808", "falls 3",
		`put "a" "k" "d" "t"`, `make "\q"`, `make "\x4"`, `make "\xAB"`, "fall\t3", "fall 3\t", "\tfall 3", "fall 3\r", "fall 3\r\n", "\r\n", "make \"\xc8\"",
	} {
		wantRefused(t, "example 3", line, api.ErrScript)
	}
	wantNotPrinted(t, "example 4", []command{{Kind: 2, Step: world.Step{Kind: 0}}}, api.ErrScript)
	wantNotPrinted(t, "example 4", []command{{Kind: 6}}, api.ErrScript)
	wantQuote(t, "\x00\"a", `"\x00\"a"`)
}

// TestEveryRow: a line of each row of the tables, written out, and its command.
func TestEveryRow(t *testing.T) {
	all := map[string]command{
		"world 8192 2048":          {Kind: 1, Sectors: 8192, Size: 2048},
		"world -1 0":               {Kind: 1, Sectors: -1},
		`make "a"`:                 stepOf(world.Step{Kind: 1, Bucket: "a"}),
		`drop "b"`:                 stepOf(world.Step{Kind: 2, Bucket: "b"}),
		`put "b" "k" "d"`:          stepOf(world.Step{Kind: 3, Bucket: "b", Key: "k", Data: "d"}),
		`put "" "" "" "" ""`:       stepOf(world.Step{Kind: 3, Meta: pairs("", "")}),
		`put "b" "k" "d" "n" "v"`:  stepOf(world.Step{Kind: 3, Bucket: "b", Key: "k", Data: "d", Meta: pairs("n", "v")}),
		`delete "b" "k"`:           stepOf(world.Step{Kind: 4, Bucket: "b", Key: "k"}),
		`remove "b" "k" 5`:         stepOf(world.Step{Kind: 5, Bucket: "b", Key: "k", Seq: 5}),
		`get "b" "k"`:              stepOf(world.Step{Kind: 6, Bucket: "b", Key: "k"}),
		`version "b" "k" 6`:        stepOf(world.Step{Kind: 7, Bucket: "b", Key: "k", Seq: 6}),
		`list "b" "k" 7`:           stepOf(world.Step{Kind: 8, Bucket: "b", Key: "k", N: 7}),
		`versions "b" "k" 8`:       stepOf(world.Step{Kind: 9, Bucket: "b", Key: "k", N: 8}),
		`names`:                    stepOf(world.Step{Kind: 10}),
		`export "b"`:               stepOf(world.Step{Kind: 11, Bucket: "b"}),
		`since "b" 9`:              stepOf(world.Step{Kind: 12, Bucket: "b", Seq: 9}),
		`import "b" "d"`:           stepOf(world.Step{Kind: 13, Bucket: "b", Data: "d"}),
		`apply "b" "d"`:            stepOf(world.Step{Kind: 14, Bucket: "b", Data: "d"}),
		`shelf "b" 10`:             stepOf(world.Step{Kind: 15, Bucket: "b", N: 10}),
		`patch "b" 11`:             stepOf(world.Step{Kind: 16, Bucket: "b", N: 11}),
		`fall 12`:                  stepOf(world.Step{Kind: 17, N: 12}),
		`crash 13`:                 stepOf(world.Step{Kind: 18, N: 13}),
		`crash 13 -1 0 0 99`:       stepOf(world.Step{Kind: 18, N: 13, Kept: []int{-1, 0, 0, 99}}),
		`value "b"`:                {Kind: 3, Bucket: "b"},
		`digest`:                   {Kind: 4},
		`up`:                       {Kind: 5},
		"fall 9223372036854775807": stepOf(world.Step{Kind: 17, N: greatest}),
	}
	seen := map[string]bool{}
	for line, c := range all {
		name, _, _ := strings.Cut(line, " ")
		seen[name] = true
		for _, text := range []string{line, line + "\n", "\n" + line, "#\n" + line + "\n#"} {
			wantRead(t, "a row", text, c)
		}
		if got, err := script.Print([]command{c}); got != line+"\n" || err != api.OK {
			t.Errorf("P22.1: Print(%s) = %q, %d, want %q", short(c), got, err, line+"\n")
		}
	}
	for _, r := range rows {
		if !seen[r.name()] {
			t.Errorf("the test has no line of %s", r.name())
		}
	}
}

// samples are lines of all rows, with few words and with many.
func samples() []string {
	var all []string
	for _, r := range rows {
		for _, times := range []int{0, 1, 2} {
			if times > 0 && !strings.Contains(r.line, "*") {
				break
			}
			line, again, _ := strings.Cut(strings.TrimSuffix(r.line, ")*"), "(")
			line += strings.Repeat(again, times)
			for _, q := range []string{`"a"`, `""`, `" \"\\\x0a"`} {
				all = append(all, strings.NewReplacer("Q", q, "N", "-17").Replace(line))
				if !strings.Contains(line, "Q") {
					break
				}
			}
		}
	}
	return all
}

// TestSamples: each is a command's line, by itself and among others.
func TestSamples(t *testing.T) {
	for _, line := range samples() {
		if _, ok := commandOf(line); !ok {
			t.Fatalf("the test's own line %q is none", line)
		}
		for _, text := range []string{line, line + "\n", "up\n" + line + "\nup\n", line + "\n" + line} {
			wantParse(t, "a sample", text)
		}
	}
}

// TestWords: a word too few, a word too many, and others in the place of each.
func TestWords(t *testing.T) {
	others := []string{"", "0", "-5", `""`, `"5"`, `"up"`, "up", "make", "x", "'a'", `"`, `\`, `\"`, "#", "\"a", "a\"", "5\"", "\"a\"5", `"a""b"`, "1.0", "1e3", "0x1", "nil", "[", "]", "\u00a0", "NaN"}
	for _, line := range samples() {
		words := word.FindAllString(line, -1)
		name, _, _ := strings.Cut(line, " ")
		words = append([]string{name}, words...)
		for i := range words {
			wantParse(t, "a word less", strings.Join(slices.Delete(slices.Clone(words), i, i+1), " "))
			for j := range i {
				changed := slices.Clone(words)
				changed[i], changed[j] = changed[j], changed[i]
				wantParse(t, "two words in each other's place", strings.Join(changed, " "))
			}
		}
		for i := range len(words) + 1 {
			for _, w := range others {
				wantParse(t, "a word more", strings.Join(slices.Insert(slices.Clone(words), i, w), " "))
				wantParse(t, "two words more", strings.Join(slices.Insert(slices.Clone(words), i, w, w), " "))
				if i < len(words) {
					changed := slices.Clone(words)
					changed[i] = w
					wantParse(t, "another word", strings.Join(changed, " "))
				}
			}
		}
	}
	for _, r := range rows {
		line := strings.NewReplacer("Q", `"a"`, "N", "5", "( ", " ", ")*", "").Replace(r.line)
		if strings.Contains(line, " ") {
			wantRefused(t, "no words but the name", r.name(), api.ErrScript)
			wantRefused(t, "numbers for texts", strings.ReplaceAll(line, `"a"`, "5")+" 5 \"a\"", api.ErrScript)
		}
		if !strings.Contains(r.line, "*") {
			wantRefused(t, "a number more", line+" 5", api.ErrScript)
			wantRefused(t, "a text more", line+` "a"`, api.ErrScript)
		}
		if strings.Contains(r.line, "Q") {
			wantRefused(t, "numbers for texts", strings.ReplaceAll(line, `"a"`, "5"), api.ErrScript)
		}
		if strings.Contains(r.line, "N") {
			wantRefused(t, "texts for numbers", strings.ReplaceAll(line, "5", `"5"`), api.ErrScript)
		}
	}
}

// TestBlanks: one between each two words, and nowhere else outside of quotes.
func TestBlanks(t *testing.T) {
	for _, line := range samples() {
		wantRefused(t, "a blank ahead", " "+line, api.ErrScript)
		wantRefused(t, "a blank behind", line+" ", api.ErrScript)
		wantRefused(t, "a blank behind", line+" \n", api.ErrScript)
		for i, c := range line {
			if c == ' ' && !strings.Contains(line, `" \`) {
				wantRefused(t, "two blanks", line[:i]+" "+line[i:], api.ErrScript)
				wantRefused(t, "no blank", line[:i]+line[i+1:], api.ErrScript)
			}
		}
	}
	for _, text := range []string{" ", "  ", " #", " # a remark", "up # a remark", "up#", "up #", " \n", "up\n \nup"} {
		wantRefused(t, "blanks", text, api.ErrScript)
	}
}

// TestEachByte: each byte put into a line, left out of it, and put in the place
// of another.
func TestEachByte(t *testing.T) {
	for _, line := range samples() {
		for i := range len(line) + 1 {
			for c := range 256 {
				wantParse(t, "a byte more", line[:i]+string([]byte{byte(c)})+line[i:])
				if i < len(line) {
					wantParse(t, "another byte", line[:i]+string([]byte{byte(c)})+line[i+1:])
				}
			}
			wantParse(t, "cut short", line[:i])
			wantParse(t, "its beginning cut", line[i:])
			if i < len(line) {
				wantParse(t, "a byte less", line[:i]+line[i+1:])
			}
		}
	}
}

// TestForeignBytes: none of the bytes that a line may not have stands outside of
// quotes, and none of them in quotes as itself.
func TestForeignBytes(t *testing.T) {
	for c := range 256 {
		b := string([]byte{byte(c)})
		if c >= 32 && c <= 126 || c == '\n' {
			continue
		}
		for _, line := range []string{b, b + "up", "up" + b, "u" + b + "p", "fall" + b + "3", "fall " + b + "3", "fall 3" + b, "make" + b + `"a"`, `make "a"` + b, `make ` + b + `"a"`, `make "` + b + `"`, `make "a` + b + `b"`, `make "\` + b + `"`, `make "\x` + b + `0"`, `make "\x0` + b + `"`, "put \"a\" \"k\" \"d\"" + b + "\"n\" \"v\"", b + "#"} {
			wantRefused(t, fmt.Sprint("the byte ", c), line, api.ErrScript)
		}
		wantRead(t, "in a remark", "#"+b)
	}
}

// TestNames: only those that there are, and just so.
func TestNames(t *testing.T) {
	known := map[string]bool{}
	for _, r := range rows {
		known[r.name()] = true
	}
	near := func(name, rest string) {
		t.Helper()
		if !known[name] && name != "" && name[0] != '#' {
			wantRefused(t, "a name", name+rest, api.ErrScript)
		} else {
			wantParse(t, "a name", name+rest)
		}
	}
	for _, r := range rows {
		name := r.name()
		rest := strings.NewReplacer("Q", `"a"`, "N", "5", "( ", " ", ")*", "").Replace(r.line)[len(name):]
		near(strings.ToUpper(name), rest)
		near(strings.ToUpper(name[:1])+name[1:], rest)
		near(`"`+name+`"`, rest)
		near("'"+name+"'", rest)
		near(name+name, rest)
		for _, other := range rows {
			near(other.name(), rest)
			near(name+other.name(), rest)
			near(name+" "+other.name(), rest)
		}
		for i := range len(name) + 1 {
			near(name[:i], rest)
			near(name[i:], rest)
			for _, c := range "abcdefghijklmnopqrstuvwxyz_-.:;=0S" {
				near(name[:i]+string(c)+name[i:], rest)
				if i < len(name) {
					near(name[:i]+string(c)+name[i+1:], rest)
				}
			}
			if i+1 < len(name) {
				near(name[:i]+name[i+1:], rest)
				near(name[:i]+name[i+1:i+2]+name[i:i+1]+name[i+2:], rest)
			}
		}
	}
	for _, name := range []string{"step", "digest?", "worlds", "import-shelf", "importshelf", "applyshelf", "getversion", "GetVersion", "kind", "1", "17", "-1", `""`, `"`, "put\x00", "\ufeffup"} {
		near(name, "")
		near(name, " 3")
		near(name, ` "a"`)
		near(name, ` "a" 3`)
	}
}

// TestNumbers: all forms that there are, in the place of each number.
func TestNumbers(t *testing.T) {
	right := map[string]int64{
		"0": 0, "1": 1, "9": 9, "10": 10, "99": 99, "100": 100, "-1": -1, "-9": -9, "-10": -10, "1234567890123456789": 1234567890123456789,
		"2147483647": 2147483647, "2147483648": 2147483648, "-2147483648": -2147483648, "-2147483649": -2147483649, "4294967296": 4294967296,
		"9223372036854775806": greatest - 1, "9223372036854775807": greatest, "-9223372036854775807": least + 1, "-9223372036854775808": least,
		"1099511627776": 1 << 40,
	}
	wrong := []string{
		"", "-", "+", "-0", "+0", "00", "01", "-00", "-01", "000", "+1", "--1", "-+1", "1-", "1+", "0-", "- 1", "1_000", "1,000", "1.0", "1.", ".5", "1e3", "1E3", "0x10", "0b1", "0o7", "010", "0-1", "a", "1a", "a1", "Inf", "NaN",
		"9223372036854775808", "-9223372036854775809", "9223372036854775810", "10000000000000000000", "18446744073709551615", "18446744073709551616", "18446744073709551617", "-18446744073709551615",
		"99999999999999999999", "340282366920938463463374607431768211456", strings.Repeat("9", 400), "-" + strings.Repeat("9", 400), strings.Repeat("0", 400), strings.Repeat("0", 400) + "1",
		"\u0661", "\uff11", "\u22121", "1\u00a0", `"1"`, "'1'", "(1)", "1;", "#1", "1#",
	}
	for _, r := range rows {
		for _, times := range []int{0, 1, 3} {
			line, again, _ := strings.Cut(strings.TrimSuffix(r.line, ")*"), "(")
			line = strings.ReplaceAll(line+strings.Repeat(again, times), "Q", `"b"`)
			places := strings.Count(line, "N")
			for place := range places {
				with := func(w string) string {
					parts := strings.SplitN(line, "N", place+2)
					return strings.ReplaceAll(strings.Join(parts[:place+1], "5")+w+parts[place+1], "N", "6")
				}
				for w, n := range right {
					c, err := script.Parse(with(w))
					if err != api.OK || len(c) != 1 || !slices.Contains(numbersOf(c[0]), n) {
						t.Errorf("P22.1: Parse(%q) = %s, %d, want one with %d", with(w), short(c...), err, n)
					}
					wantParse(t, "a number", with(w))
				}
				for _, w := range wrong {
					wantRefused(t, "no number", with(w), api.ErrScript)
				}
			}
		}
	}
	for n := int64(-1200); n <= 1200; n++ {
		wantRead(t, "a small number", fmt.Sprint("fall ", n), stepOf(world.Step{Kind: world.Fall, N: int(n)}))
		wantRead(t, "a small number", fmt.Sprintf("since \"\" %d", n), stepOf(world.Step{Kind: world.Since, Seq: n}))
	}
}

// numbersOf are all the numbers that a command has.
func numbersOf(c command) []int64 {
	l := []int64{int64(c.Sectors), int64(c.Size), c.Step.Seq, int64(c.Step.N)}
	for _, n := range c.Step.Kept {
		l = append(l, int64(n))
	}
	return l
}

// TestPairs: put with no pair, one and many, and with a name without a value.
func TestPairs(t *testing.T) {
	line := `put "b" "k" "d"`
	var meta []api.Pair
	for i := range 400 {
		c := stepOf(world.Step{Kind: world.Put, Bucket: "b", Key: "k", Data: "d", Meta: meta})
		wantRead(t, fmt.Sprint(i, " pairs"), line, c)
		wantRefused(t, fmt.Sprint(i, " pairs and a name"), line+` "n"`, api.ErrScript)
		if i < 5 {
			for _, more := range []string{` "n" 5`, ` 5 "v"`, ` 5`, ` 5 6`, ` "n" v`, ` n "v"`, ` "n"  "v"`, ` "n""v"`, ` "n" "v" `, ` ("n" "v")`} {
				wantRefused(t, fmt.Sprint(i, " pairs and"+more), line+more, api.ErrScript)
			}
		}
		p := api.Pair{Name: fmt.Sprint("n", i), Value: fmt.Sprint(i%7, "\x00")}
		if i%3 == 0 {
			p = api.Pair{Name: "n", Value: ""} // a name may stand twice
		}
		meta = append(meta, p)
		line += " " + quoteOf(p.Name) + " " + quoteOf(p.Value)
	}
}

// TestKept: crash with none, one and many.
func TestKept(t *testing.T) {
	line := "crash 7"
	var kept []int
	for i := range 500 {
		wantRead(t, fmt.Sprint(i, " kept"), line, stepOf(world.Step{Kind: world.Crash, N: 7, Kept: kept}))
		if i < 5 {
			for _, more := range []string{" ", ` ""`, ` "1"`, " 01", " -0", " -", " +1", "  1", " 1 ", " x", " 1 x", " 9223372036854775808", " [1]", ",1"} {
				wantRefused(t, fmt.Sprint(i, " kept and"+more), line+more, api.ErrScript)
			}
		}
		n := (i*7919)%1000 - 300
		kept = append(kept, n)
		line += fmt.Sprint(" ", n)
	}
}

// wantSame: two texts are read as the same commands, and as those that are
// wanted.
func wantSame(t *testing.T, what, a, b string, want []command) {
	t.Helper()
	for _, text := range []string{a, b} {
		if got, err := script.Parse(text); err != api.OK || !sameAll(got, want) {
			t.Errorf("P22.3: %s: Parse(%.300q) = %s, %d, want %s", what, text, short(got...), err, short(want...))
		}
	}
}

// TestSilentLines: lines that say nothing, put between any lines and taken away.
func TestSilentLines(t *testing.T) {
	x := seed(31)
	remarks := []string{"", "#", "##", "# up", "#make \"a\"", "#\x00\xff\t\r", "#\"", "#\\", "# " + strings.Repeat("long ", 200)}
	for range 60 {
		text, want := x.script(6)
		lines := linesOf(text)
		for i := range len(lines) + 1 {
			for _, remark := range remarks {
				wantSame(t, "a line more", text, strings.Join(slices.Insert(slices.Clone(lines), i, remark), "\n")+"\n", want)
				wantSame(t, "two lines more", text, strings.Join(slices.Insert(slices.Clone(lines), i, remark, ""), "\n"), want)
			}
		}
		for i, line := range lines {
			if line == "" || line[0] == '#' {
				wantSame(t, "a line less", text, strings.Join(slices.Delete(slices.Clone(lines), i, i+1), "\n"), want)
			}
		}
		said := slices.DeleteFunc(lines, func(line string) bool { return line == "" || line[0] == '#' })
		wantSame(t, "none left", text, strings.Join(said, "\n"), want)
	}
	// They change nothing where a text is refused, either.
	for _, wrong := range []string{"x", "up ", "make", " #"} {
		for _, remark := range remarks {
			for _, text := range []string{remark + "\n" + wrong, wrong + "\n" + remark, "up\n" + remark + "\n" + wrong + "\nup\n"} {
				wantRefused(t, "a wrong line among others", text, api.ErrScript)
			}
		}
	}
	// Inside of a line there is no remark.
	wantRefused(t, "a remark behind a command", "names #", api.ErrScript)
	wantRead(t, "a remark in quotes", `make "#"`, stepOf(world.Step{Kind: world.Make, Bucket: "#"}))
	wantRefused(t, "an end in quotes", "make \"\n\"", api.ErrScript)
	wantRefused(t, "an end in quotes", "make \"\\\n\"", api.ErrScript)
}

// TestTogether: two texts, one behind the other, are the commands of both.
func TestTogether(t *testing.T) {
	x := seed(32)
	texts := []string{"", "\n", "#\n", "up\n", "\n\nup\n#\n"}
	for range 40 {
		text, _ := x.script(5)
		texts = append(texts, text+"\n")
	}
	last := append(slices.Clone(texts), "up", "#", "make \"a\"")
	for _, a := range texts {
		for _, b := range last {
			l, err := script.Parse(a)
			more, err2 := script.Parse(b)
			both, err3 := script.Parse(a + b)
			if err != api.OK || err2 != api.OK || err3 != api.OK || !sameAll(both, slices.Concat(l, more)) {
				t.Errorf("P22.3: Parse(%.200q and %.200q) = %s, %d, want %s and %s", a, b, short(both...), err3, short(l...), short(more...))
			}
			wantRefused(t, "the first one wrong", "x\n"+a+b, api.ErrScript)
			wantRefused(t, "the last one wrong", a+"x\n"+b, api.ErrScript)
		}
	}
	wantRefused(t, "the first one without its end", "up"+"up", api.ErrScript)
}

// TestSomeTexts: commands in any form, lines that say nothing among them.
func TestSomeTexts(t *testing.T) {
	x := seed(33)
	for range 3000 {
		text, want := x.script(8)
		wantRead(t, "some text", text, want...)
		if text == "" {
			continue
		}
		at := x.below(len(text))
		wantParse(t, "cut short", text[:at])
		wantParse(t, "a byte less", text[:at]+text[at+1:])
		wantParse(t, "another byte", text[:at]+pick(x, "\"", "\\", " ", "\n", "#", "x", "0", "-", "\x00", "\xff")+text[at+1:])
		wantParse(t, "a byte more", text[:at]+pick(x, "\"", "\\", " ", "\n", "#", "x", "0", "-", "\x00", "\xff")+text[at:])
	}
}

// every calls f with each text of at most most of these bytes.
func every(bytes string, most int, f func(text string)) {
	var more func(text string)
	more = func(text string) {
		f(text)
		if len(text) < most {
			for _, c := range []byte(bytes) {
				more(text + string([]byte{c}))
			}
		}
	}
	more("")
}

// TestEveryShortText: all texts of few bytes that ask for care, by themselves
// and behind the beginning of a line.
func TestEveryShortText(t *testing.T) {
	every("up\n# \"", 6, func(text string) { wantParse(t, "a short text", text) })
	every("01-+ \"\n", 5, func(text string) {
		wantParse(t, "a short text", "fall "+text)
		wantParse(t, "a short text", "crash 1"+text)
	})
	every("\"\\x0f \n", 6, func(text string) { wantParse(t, "a short text", "make "+text) })
	every("\"\\x5", 7, func(text string) { wantParse(t, "a short text", `make "`+text+`"`) })
	every("\" a1", 6, func(text string) { wantParse(t, "a short text", `put "" "" ""`+text) })
}

// TestThereAndBack: what Print tells of any commands is read as the same, what
// their kinds don't name zero, and is told again as just that text.
func TestThereAndBack(t *testing.T) {
	x := seed(34)
	for range 6000 {
		l := x.commands(6)
		text := wantPrint(t, "there and back", l)
		again, err := script.Parse(text)
		if err != api.OK {
			t.Errorf("P22.2: Parse(%.300q): %d", text, err)
		}
		if twice, err := script.Print(again); twice != text || err != api.OK {
			t.Errorf("P22.2: Print of what is read of %.300q = %.300q, %d", text, twice, err)
		}
	}
}

// TestArgumentsAlone: what was asked before, or is asked beside, changes nothing.
func TestArgumentsAlone(t *testing.T) {
	var all sync.WaitGroup
	for worker := range 8 {
		all.Go(func() {
			x := seed(40 + worker)
			for range 300 {
				text, want := x.script(6)
				wantRead(t, "beside others", text, want...)
				wantRefused(t, "beside others", text+"\nx", api.ErrScript)
				wantRead(t, "behind one that was refused", text, want...)
				l := x.commands(4)
				wantPrint(t, "beside others", l)
				wantNotPrinted(t, "beside others", append(l, command{Kind: 6}), api.ErrScript)
				wantPrint(t, "behind one that was refused", l)
			}
		})
	}
	all.Wait()
}
