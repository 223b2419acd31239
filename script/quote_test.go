package script_test

import (
	"fmt"
	"strings"
	"testing"

	"coffer/api"
	"coffer/script"
	"coffer/world"
)

// wantQuote: a text's one form is this, has no bytes but those of a line, and is
// read as the text.
func wantQuote(t *testing.T, s, want string) {
	t.Helper()
	got := script.Quote(s)
	if got != want {
		t.Errorf("P22.1: Quote(%.200q) = %.300s, want %.300s", s, got, want)
	}
	for _, c := range []byte(got) {
		if c < 32 || c > 126 {
			t.Errorf("P22.4: Quote(%.200q) has the byte %d", s, c)
		}
	}
	if line := "make " + got; len(line) > api.MaxLine {
		wantRefused(t, "a long one", line, api.ErrLong)
	} else if l, err := script.Parse(line); err != api.OK || len(l) != 1 || !same(l[0], stepOf(world.Step{Kind: world.Make, Bucket: s})) {
		t.Errorf("P22.4: Parse(%.300q) = %s, %d, want %.200q", line, short(l...), err, s)
	}
}

func TestQuote(t *testing.T) {
	wantQuote(t, "", `""`)
	wantQuote(t, `"`, `"\""`)
	wantQuote(t, `\`, `"\\"`)
	wantQuote(t, `\"`, `"\\\""`)
	wantQuote(t, `\x00`, `"\\x00"`)
	wantQuote(t, "\x00", `"\x00"`)
	wantQuote(t, " ~\x1f\x7f\x80\xff\n\r\t", `" ~\x1f\x7f\x80\xff\x0a\x0d\x09"`)
	wantQuote(t, "\u00e9\u2028", `"\xc3\xa9\xe2\x80\xa8"`)
	for a := range 256 {
		one := string([]byte{byte(a)})
		wantQuote(t, one, quoteOf(one))
		for b := range 256 {
			two := string([]byte{byte(a), byte(b)})
			if got := script.Quote(two); got != quoteOf(two) {
				t.Errorf("P22.1: Quote(%q) = %s, want %s", two, got, quoteOf(two))
			}
		}
	}
	x := seed(1)
	for range 3000 {
		s := x.text(60)
		wantQuote(t, s, quoteOf(s))
	}
	for _, n := range []int{8184, 8185, 8186, 100000, 1 << 20} {
		wantQuote(t, strings.Repeat("a", n), `"`+strings.Repeat("a", n)+`"`)
		wantQuote(t, strings.Repeat("\x00", n), `"`+strings.Repeat(`\x00`, n)+`"`)
	}
}

// textPlaces are lines with one text of each place that there is.
func textPlaces() []string {
	var all []string
	for _, r := range rows {
		line := strings.NewReplacer("( ", " ", ")*", "", "N", "5").Replace(r.line)
		for place := range strings.Count(line, "Q") {
			parts := strings.SplitN(line, "Q", place+2)
			all = append(all, strings.ReplaceAll(strings.Join(parts[:place+1], `"a"`)+"?"+parts[place+1], "Q", `"b"`))
		}
	}
	return all
}

// TestQuotedBytes: each byte by itself in quotes, escaped and not, in the place
// of each text.
func TestQuotedBytes(t *testing.T) {
	for _, place := range textPlaces() {
		with := func(quoted string) string { return strings.Replace(place, "?", quoted, 1) }
		for c := range 256 {
			b := string([]byte{byte(c)})
			if c < 32 || c > 126 || c == '"' || c == '\\' {
				wantRefused(t, "a byte that doesn't stand for itself", with(`"`+b+`"`), api.ErrScript)
			} else {
				wantParse(t, "a byte", with(`"`+b+`"`))
			}
			if c != '"' && c != '\\' {
				wantRefused(t, "a wrong escape", with(`"\`+b+`"`), api.ErrScript)
			} else {
				wantParse(t, "an escape", with(`"\`+b+`"`))
			}
			for _, text := range []string{b + b, `\` + b + b, `\` + b + "0", `\x` + b, `\x0` + b, `\x` + b + "0", `\` + b + "00", "a" + b, b + "a", `\\` + b, `\"` + b, b + `\"`, `a"` + b, `a" ` + b} {
				wantParse(t, "bytes in quotes", with(`"`+text+`"`))
			}
			wantParse(t, "a byte behind the last quote", with(`"a"`+b))
			wantParse(t, "a byte ahead of the first quote", with(b+`"a"`))
			if c != ' ' && c != '\n' {
				wantRefused(t, "a byte behind the last quote", with(`"a"`+b)+b, api.ErrScript)
			}
		}
	}
}

// TestHex: \x with each two bytes behind it.
func TestHex(t *testing.T) {
	const digits = "0123456789abcdef"
	for a := range 256 {
		for b := range 256 {
			line := `make "\x` + string([]byte{byte(a), byte(b)}) + `"`
			high, low := strings.IndexByte(digits, byte(a)), strings.IndexByte(digits, byte(b))
			l, err := script.Parse(line)
			switch {
			case high >= 0 && low >= 0:
				if err != api.OK || len(l) != 1 || l[0].Step.Bucket != string([]byte{byte(16*high + low)}) {
					t.Errorf("P22.1: Parse(%s) = %s, %d", line, short(l...), err)
				}
			case err != api.ErrScript || len(l) > 0:
				t.Errorf("P22.1: Parse(%q) = %s, %d, want nothing, 110", line, short(l...), err)
			}
		}
	}
	for c := range 256 {
		for _, behind := range []string{"", "a", "0", "00", "\\x00", " ", "\\\\", "\\\""} {
			line := fmt.Sprintf(`make "\x%02x%s"`, c, behind)
			wantParse(t, "digits and more", line)
		}
		wantParse(t, "digits of the other kind", fmt.Sprintf(`make "\x%02X"`, c))
		wantParse(t, "an escape of the other kind", fmt.Sprintf(`make "\X%02x"`, c))
		wantRefused(t, "three digits", fmt.Sprintf(`make "\%03o"`, c), api.ErrScript)
		wantRefused(t, "four digits", fmt.Sprintf(`make "\u%04x"`, c), api.ErrScript)
	}
	for _, wrong := range []string{`\q`, `\n`, `\t`, `\r`, `\0`, `\a`, `\'`, `\ `, `\/`, `\x`, `\x4`, `\x 4`, `\x4 `, `\x-1`, `\x+1`, `\xg0`, `\x0g`, `\xAB`, `\xaB`, `\xAb`, `\X41`, `\x{41}`, `\u0041`, `\101`, `\`, `\\\`, `a\`, `"`, `a"`, `"a`, `a"b`, `""`} {
		wantRefused(t, "a wrong escape", `make "`+wrong+`"`, api.ErrScript)
		wantRefused(t, "a wrong escape", `make "a`+wrong+`z"`, api.ErrScript)
		wantRefused(t, "a wrong escape", `put "a" "b" "`+wrong+`" "c" "d"`, api.ErrScript)
	}
}

// TestCutTexts: a quoted text cut short at each of its bytes, its end and its
// beginning, by itself and with words behind it.
func TestCutTexts(t *testing.T) {
	for _, quoted := range []string{`""`, `"a"`, `"\""`, `"\\"`, `"\x00"`, `"a b"`, `"ab\"cd\\ef\x7fgh"`, `"\\\""`, `"\x5c"`, `"\x22"`, `" "`, `"#"`} {
		for i := range len(quoted) {
			wantRefused(t, "cut short", "make "+quoted[:i], api.ErrScript)
			wantRefused(t, "cut short", "make "+quoted[:i]+"\nup\n", api.ErrScript)
			wantParse(t, "its beginning cut", "make "+quoted[i+1:]) // which may be another text
			for _, place := range textPlaces() {
				wantParse(t, "cut short", strings.Replace(place, "?", quoted[:i], 1))
				wantParse(t, "its beginning cut", strings.Replace(place, "?", quoted[i+1:], 1))
			}
		}
		wantRead(t, "whole", "make "+quoted, must(commandOf("make "+quoted)))
	}
}

func must(c command, ok bool) command {
	if !ok {
		panic("no command")
	}
	return c
}
