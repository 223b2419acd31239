package run_test

import (
	"fmt"
	"slices"
	"strings"
	"testing"

	"coffer/api"
	"coffer/run"
	"coffer/script"
	"coffer/world"
)

// TestExamples: those of the chapter.
func TestExamples(t *testing.T) {
	tells(t, `make "a"; put "a" "k" "one"; put "a" "k" "two" "t" "x"; delete "a" "q"; list "a" "" 9; get "a" "k"; value "a"`,
		`ok; ok 1; ok 2; ok 3; ok 1; row "k" 2 data 3; ok; version "k" 2 data "two"; meta "t" "x"; ok 4 3; version "k" 1 data "one"; version "k" 2 data "two"; meta "t" "x"; version "q" 3 marker`)
	tells(t, `get "a" "k"; names; digest; up`, `err 70; ok 0; ok 0; ok yes 0`)
	tells(t, `make "a"; export "a"; shelf "b" 0; names; fall 1; make "c"; value "a"; up`,
		`ok; ok `+exported(packed(of(1), 0))+`; ok; ok 2; name "a"; name "b"; ok; err 9; err 9; ok no 1`)
	for _, text := range []string{"up", "up\n", "", w + w, "world 2 2", "world 2 2\n"} {
		wantRefused(t, "example 4", text)
	}
}

// TestReadme: the example of the file README.md.
func TestReadme(t *testing.T) {
	value := packed(of(2, api.Version{Key: "k", Seq: 1, Data: "one", Meta: pairs("by", "me")}), 0)
	if !strings.HasPrefix(hashed(value), "e1ff") {
		t.Fatalf("the hash is %s", hashed(value))
	}
	tells(t, `make "a"; put "a" "k" "one" "by" "me"; get "a" "k"; fall 1; put "a" "k" "two"; crash 0; list "a" "" 9; digest`,
		`ok; ok 1; ok; version "k" 1 data "one"; meta "by" "me"; ok; err 9; ok; ok 1; row "k" 1 data 3; ok 1; digest "a" `+hashed(value))
}

// TestWholeExamples: the ten of the whole document.
func TestWholeExamples(t *testing.T) {
	one, toldOne := `make "a"; put "a" "k" "one"; put "a" "k" "two"; get "a" "k"`, `ok; ok 1; ok 2; ok; version "k" 2 data "two"`
	two, toldTwo := one+`; delete "a" "k"; get "a" "k"; list "a" "" 9`, toldOne+`; ok 3; err 73; ok 0`
	whole := of(3, api.Version{Key: "k", Seq: 1, Data: "one"}, api.Version{Key: "k", Seq: 2, Data: "two"})
	x := hashed(packed(whole, 0))
	four, toldFour := one+`; export "a"; shelf "b" 0; digest`, toldOne+`; ok `+exported(packed(whole, 0))+`; ok; ok 2; digest "a" `+x+`; digest "b" `+x
	five := four + `; put "a" "j" ""; since "a" 3; patch "b" 1; value "b"`
	toldFive := toldFour + `; ok 3; ok ` + exported(packed(of(4, api.Version{Key: "j", Seq: 3}), 3)) + `; ok; ok 4 3; version "j" 3 data ""; version "k" 1 data "one"; version "k" 2 data "two"`
	for _, c := range []struct{ commands, want string }{
		{one, toldOne},
		{two, toldTwo},
		{two + `; remove "a" "k" 3; get "a" "k"`, toldTwo + `; ok; ok; version "k" 2 data "two"`},
		{four, toldFour},
		{five, toldFive},
		{five + `; patch "b" 1`, toldFive + `; err 91`},
		{`make "a"; fall 1; put "a" "k" "x"; get "a" "k"; crash 0; get "a" "k"`, `ok; ok; err 9; err 9; ok; err 72`},
		{`import "a" "x"`, `err 90`},
		{`put "a" "k" "x"`, `err 70`},
		{`make "A"`, `err 60`},
		{one + `; remove "a" "k" 9; get "a" "j"; put "a" "" "x"`, toldOne + `; err 72; err 72; err 61`},
	} {
		tells(t, c.commands, c.want)
	}
	if told, err := run.Play("world 8 4\nmake \"a\"\n"); err != api.ErrScript && told != "ok\nok\n" && told != "ok\nerr 40\n" && told != "ok\nerr 41\n" {
		t.Errorf("P23.1: example 10: %q, %d", told, err)
	}
}

// wantRefused: a text is refused, and nothing is told.
func wantRefused(t *testing.T, what, text string) {
	t.Helper()
	if got, err := run.Play(text); got != "" || err != api.ErrScript {
		t.Fatalf("P23.1: %s: Play(%.300q) = %.300q, %d, want nothing, 110", what, text, got, err)
	}
	wantPlay(t, what, text)
}

// some is a line of each kind of command but a world.
var some = []string{
	`make "a"`, `drop "a"`, `put "a" "k" "d"`, `put "a" "k" "d" "n" "v"`, `delete "a" "k"`, `remove "a" "k" 1`, `get "a" "k"`, `version "a" "k" 1`,
	`list "a" "" 9`, `versions "a" "" 9`, `names`, `export "a"`, `since "a" 1`, `import "a" "x"`, `apply "a" "x"`, `shelf "a" 0`, `patch "a" 0`,
	`fall 1`, `crash 0`, `crash 0 1 2`, `value "a"`, `digest`, `up`,
}

// TestRefused: texts that are no script, or not of one world at their beginning.
func TestRefused(t *testing.T) {
	for _, text := range []string{"", "\n", "\n\n", "#", "#\n", "# world 8192 2048\n", "#x\n\n#y"} {
		wantRefused(t, "no command", text)
	}
	for _, line := range some {
		wantRefused(t, "no world", line)
		wantRefused(t, "no world", line+"\n")
		wantRefused(t, "a world behind a command", line+"\n"+w)
		wantRefused(t, "two worlds", w+line+"\n"+w)
		wantRefused(t, "two worlds, the other none", w+line+"\nworld 2 2")
		wantRefused(t, "two worlds, a command behind", w+w+line)
	}
	wantRefused(t, "two worlds", w+w)
	wantRefused(t, "two worlds, remarks between", w+"#\n\n"+w)
	wantRefused(t, "three worlds", w+w+w)
}

// TestParseRefuses: texts that Parse refuses, with each of its errors, and such
// as it just takes.
func TestParseRefuses(t *testing.T) {
	for _, line := range []string{"ups", "up ", " up", "make", "make a", `make "a" "b"`, "fall 03", "fall", "crash", `put "a" "k" "d" "n"`, "world 8192", "world 8192 2048 1", "\t", "up\r", `make "\q"`, "WORLD 8192 2048"} {
		for _, text := range []string{line, line + "\n" + w, w + line, w + line + "\n", w + "up\n" + line + "\nup\n"} {
			if _, err := script.Parse(text); err != api.ErrScript {
				t.Fatalf("Parse(%q): %d", text, err)
			}
			wantRefused(t, "no script", text)
		}
	}
	for _, c := range []struct{ fits, over string }{
		{w + times(1023, "#\n"), w + times(1024, "#\n")},
		{w + times(1023, "up\n"), w + times(1024, "up\n")},
		{w + times(1022, "\n") + "up", w + times(1023, "\n") + "up"},
		{w + "#" + times(8191, "x"), w + "#" + times(8192, "x")},
		{w + `import "a" "` + times(8192-13, "x") + "\"\n", w + `import "a" "` + times(8192-12, "x") + "\"\n"},
		{w + remarks(65536-len(w)), w + remarks(65536-len(w)) + "\n"},
		{w + remarks(65536-len(w)-2) + "up", w + remarks(65536-len(w)-2) + "up\n"},
	} {
		if _, err := script.Parse(c.over); err != api.ErrLong {
			t.Fatalf("Parse of %d bytes: %d", len(c.over), err)
		}
		wantRefused(t, "too long", c.over)
		if told := wantPlay(t, "just as long as may be", c.fits); len(told) == 0 {
			t.Fatalf("P23.1: nothing is told of %d bytes that may be played", len(c.fits))
		}
	}
}

// remarks is so many bytes of lines that say nothing.
func remarks(n int) string {
	text := ""
	for ; n > 8000; n -= 8000 {
		text += "#" + times(7998, "x") + "\n"
	}
	return text + "#" + times(n-2, "x") + "\n"
}

// TestWorlds: a world is told just if world's New takes it.
func TestWorlds(t *testing.T) {
	const least, greatest = -9223372036854775808, 9223372036854775807
	var sizes []int
	for n := -2; n < 40; n++ {
		sizes = append(sizes, n)
	}
	sizes = append(sizes, least, least+1, 511, 2048, 8191, 8192, 8193, 65536, 1<<31, 1<<32, 1<<32+8, greatest)
	taken := 0
	for _, sectors := range sizes {
		for _, size := range sizes {
			text := fmt.Sprintf("world %d %d", sectors, size)
			_, refused := world.New(sectors, size)
			got, err := run.Play(text)
			told, tellErr := run.Tell(sectors, size, nil)
			if refused == api.OK {
				taken++
			}
			want, wantErr := "ok\n", api.OK
			if refused != api.OK {
				want, wantErr = "", api.ErrScript
			}
			if got != want || err != wantErr {
				t.Fatalf("P23.1: Play(%q) = %q, %d, want %q, %d", text, got, err, want, wantErr)
			}
			if told != want || tellErr != wantErr {
				t.Fatalf("P23.1: Tell(%d, %d, none) = %q, %d, want %q, %d", sectors, size, told, tellErr, want, wantErr)
			}
		}
	}
	if taken < 100 {
		t.Errorf("only %d of these worlds were taken", taken)
	}
}

// TestAlone: each command by itself, and each behind others, of a world that is up
// and of one that is down.
func TestAlone(t *testing.T) {
	alone := map[string]string{
		`make "a"`: "ok", `drop "a"`: "err 70", `put "a" "k" "d"`: "err 70", `put "a" "k" "d" "n" "v"`: "err 70", `delete "a" "k"`: "err 70",
		`remove "a" "k" 1`: "err 70", `get "a" "k"`: "err 70", `version "a" "k" 1`: "err 70", `list "a" "" 9`: "err 70", `versions "a" "" 9`: "err 70",
		`names`: "ok 0", `export "a"`: "err 70", `since "a" 1`: "err 70", `import "a" "x"`: "err 90", `apply "a" "x"`: "err 90",
		`shelf "a" 0`: "err 1", `patch "a" 0`: "err 1", `fall 1`: "ok", `crash 0`: "ok", `crash 0 1 2`: "ok",
		`value "a"`: "err 70", `digest`: "ok 0", `up`: "ok yes 0",
	}
	value := packed(of(3, api.Version{Key: "j", Seq: 2, Data: "d"}, api.Version{Key: "k", Seq: 1, Data: "x", Meta: pairs("n", "v")}), 0)
	ahead, toldAhead := `import "a" `+quoteOf(value)+`; `, "ok; "
	x := exported(value)
	behind := map[string]string{
		`make "a"`: "err 71", `drop "a"`: "ok", `put "a" "k" "d"`: "ok 3", `put "a" "k" "d" "n" "v"`: "ok 3", `delete "a" "k"`: "ok 3",
		`remove "a" "k" 1`: "ok", `get "a" "k"`: `ok; version "k" 1 data "x"; meta "n" "v"`, `version "a" "k" 1`: `ok; version "k" 1 data "x"; meta "n" "v"`,
		`list "a" "" 9`: `ok 2; row "j" 2 data 1; row "k" 1 data 1`, `versions "a" "" 9`: `ok 2; row "j" 2 data 1; row "k" 1 data 1`,
		`names`: `ok 1; name "a"`, `export "a"`: "ok " + x, `since "a" 1`: "ok " + exported(packed(of(3, api.Version{Key: "j", Seq: 2, Data: "d"}, api.Version{Key: "k", Seq: 1, Data: "x", Meta: pairs("n", "v")}), 1)),
		`import "a" "x"`: "err 90", `apply "a" "x"`: "err 90", `shelf "a" 0`: "err 1", `patch "a" 0`: "err 1", `fall 1`: "ok", `crash 0`: "ok", `crash 0 1 2`: "ok",
		`value "a"`: `ok 3 2; version "j" 2 data "d"; version "k" 1 data "x"; meta "n" "v"`, `digest`: `ok 1; digest "a" ` + hashed(value), `up`: "ok yes 0",
	}
	for _, line := range some {
		tells(t, line, alone[line])
		tells(t, ahead+line, toldAhead+behind[line])
		down := "err 9"
		switch {
		case line == "up":
			down = "ok no 0"
		case strings.HasPrefix(line, "fall") || strings.HasPrefix(line, "crash"):
			down = "ok"
		}
		tells(t, ahead+`fall 1; make "b"; `+line, toldAhead+"ok; err 9; "+down)
	}
}

// TestErrors: each error that a command can tell.
func TestErrors(t *testing.T) {
	full := quoteOf(packed(of(1<<40+1, api.Version{Key: "k", Seq: 1}), 0))
	small := quoteOf(packed(of(2, api.Version{Key: "k", Seq: 1}), 0))
	part := quoteOf(packed(of(2, api.Version{Key: "k", Seq: 1}), 1))
	key := `"` + times(33, "k") + `"`
	data := `"` + times(1025, "d") + `"`
	eight := `make "1"; make "2"; make "3"; make "4"; make "5"; make "6"; make "7"; make "8"; `
	toldEight := times(8, "ok; ")
	for _, c := range []struct{ commands, want string }{
		{`make ""`, "err 60"}, {`make "a b"`, "err 60"}, {`make "a"; make "a"`, "ok; err 71"}, {eight + `make "9"`, toldEight + "err 77"}, {eight + `make "8"`, toldEight + "err 71"},
		{`drop "A"`, "err 60"}, {`drop "a"`, "err 70"},
		{`put "A" "" "d"`, "err 60"}, {`put "a" "" "d"`, "err 61"}, {`put "a" ` + key + ` "d"`, "err 61"}, {`put "a" "k" ` + data + ` "b" "" "a" ""`, "err 63"},
		{`put "a" "k" "d" "b" "" "a" ""`, "err 62"}, {`put "a" "k" "d"`, "err 70"}, {`import "a" ` + full + `; put "a" "k" "d"`, "ok; err 74"},
		{`delete "A" ""`, "err 60"}, {`delete "a" ""`, "err 61"}, {`delete "a" "k"`, "err 70"}, {`import "a" ` + full + `; delete "a" "k"`, "ok; err 74"},
		{`remove "A" "" 1`, "err 60"}, {`remove "a" "" 1`, "err 61"}, {`remove "a" "k" 1`, "err 70"}, {`make "a"; remove "a" "k" 1`, "ok; err 72"}, {`import "a" ` + small + `; remove "a" "k" -1; remove "a" "j" 1`, "ok; err 72; err 72"},
		{`get "A" ""`, "err 60"}, {`get "a" ""`, "err 61"}, {`get "a" "k"`, "err 70"}, {`make "a"; get "a" "k"; delete "a" "k"; get "a" "k"`, "ok; err 72; ok 1; err 73"},
		{`version "A" "" 1`, "err 60"}, {`version "a" "" 1`, "err 61"}, {`version "a" "k" 1`, "err 70"}, {`make "a"; version "a" "k" 1; delete "a" "k"; version "a" "k" 1`, `ok; err 72; ok 1; ok; version "k" 1 marker`},
		{`list "A" "" 1`, "err 60"}, {`list "a" "" 1`, "err 70"}, {`versions "A" "" 1`, "err 60"}, {`versions "a" "" 1`, "err 70"},
		{`export "A"`, "err 60"}, {`export "a"`, "err 70"}, {`since "A" 0`, "err 60"}, {`since "a" 0`, "err 70"}, {`make "a"; since "a" 0; since "a" 2; up`, "ok; err 1; err 1; ok yes 0"},
		{`import "A" "x"`, "err 60"}, {`make "a"; import "a" "x"; import "a" ` + small, "ok; err 90; err 71"}, {`import "a" ` + part, "err 90"}, {eight + `import "9" ` + small, toldEight + "err 77"},
		{`apply "A" "x"`, "err 60"}, {`apply "a" "x"`, "err 90"}, {`apply "a" ` + small, "err 90"}, {`apply "a" ` + part, "err 70"}, {`make "a"; apply "a" ` + part + `; apply "a" ` + part, "ok; ok; err 91"},
		{`shelf "A" 0`, "err 1"}, {`make "a"; export "a"; shelf "A" 0; shelf "a" 0; shelf "b" -1; shelf "b" 1`, "ok; ok " + exported(packed(of(1), 0)) + "; err 60; err 71; err 1; err 1"},
		{`make "a"; since "a" 1; shelf "b" 0`, "ok; ok " + exported(packed(of(1), 1)) + "; err 90"},
		{eight + `export "1"; shelf "9" 0`, toldEight + "ok " + exported(packed(of(1), 0)) + "; err 77"},
		{`patch "A" 0`, "err 1"}, {`make "a"; since "a" 1; patch "A" 0; patch "b" 0; patch "a" 1; put "a" "k" ""; patch "a" 0`, "ok; ok " + exported(packed(of(1), 1)) + "; err 60; err 70; err 1; ok 1; err 91"},
		{`make "a"; export "a"; patch "a" 0`, "ok; ok " + exported(packed(of(1), 0)) + "; err 90"},
		{`value ""`, "err 60"}, {`value "A"`, "err 60"}, {`value "a"`, "err 70"},
	} {
		tells(t, c.commands, c.want)
	}
}

// TestTooMuch: buckets that have as many versions, or bytes, as may be.
func TestTooMuch(t *testing.T) {
	puts := func(from, to, size int) (string, string) {
		var commands, told strings.Builder
		for i := from; i < to; i++ {
			fmt.Fprintf(&commands, "put \"a\" \"k\" \"%s\"; ", times(size, "d"))
			fmt.Fprintf(&told, "ok %d; ", i)
		}
		return commands.String(), told.String()
	}
	commands, told := puts(1, 257, 0)
	tells(t, `make "a"; `+commands+`put "a" "k" ""; delete "a" "k"; version "a" "k" 256`, "ok; "+told+`err 75; err 75; ok; version "k" 256 data ""`)
	commands, told = puts(1, 63, 1024)
	tells(t, `make "a"; `+commands+`put "a" "k" ""; delete "a" "k"; put "a" "k" "" "a" "b"`, "ok; "+told+"err 76; err 76; err 76")

	for _, c := range []struct {
		first, all, size int
		want             string
	}{{200, 256, 0, "ok"}, {200, 257, 0, "err 75"}, {105, 209, 280, "ok"}, {105, 210, 280, "err 76"}} {
		ahead, toldAhead := puts(1, c.first+1, c.size)
		behind, toldBehind := puts(c.first+1, c.all+1, c.size)
		text := w + lines(`make "a"; `+ahead+`export "a"; drop "a"; import "a" `+quoteOf(packed(of(int64(c.first+1)), 0))+`; `+behind+fmt.Sprintf(`since "a" %d; shelf "b" 0; patch "b" 1`, c.first+1))
		got := wantPlay(t, "too much", text)
		all := strings.Join(got, "")
		if l := len(got); got[l-1] != c.want+"\n" || got[l-2] != "ok\n" || !strings.HasPrefix(all, "ok\nok\n"+strings.ReplaceAll(toldAhead, "; ", "\n")) || !strings.Contains(all, strings.ReplaceAll(toldBehind, "; ", "\n")) {
			t.Fatalf("P23.1: %d and %d versions of %d bytes: %.300q", c.first, c.all-c.first, c.size, all[len(all)-min(len(all), 200):])
		}
	}
}

// TestRoom: small worlds in which steps are refused for room.
func TestRoom(t *testing.T) {
	refused := map[string]int{}
	for _, one := range []string{"world 12 8", "world 16 8", "world 24 5", "world 24 12", "world 40 6", "world 40 20", "world 80 30", "world 100 7"} {
		text := one + "\nmake \"a\"\n"
		for i := range 30 {
			text += fmt.Sprintf("put \"a\" \"k%d\" \"%s\"\nexport \"a\"\nshelf \"b%d\" %d\nvalue \"b%d\"\ndigest\n", i, times(300, "d"), i%6, i, i%6)
		}
		for _, lines := range wantPlay(t, one, text) {
			refused[lines]++
		}
	}
	if refused["err 40\n"] == 0 || refused["err 41\n"] == 0 {
		t.Errorf("no step was refused for room: %d and %d", refused["err 40\n"], refused["err 41\n"])
	}
}

// TestValue: buckets without versions, and with all kinds of them.
func TestValue(t *testing.T) {
	tells(t, `make "a"; value "a"; value "b"; value ""`, "ok; ok 1 0; err 70; err 60")
	tells(t, `make "a"; put "a" "k" ""; remove "a" "k" 1; value "a"`, "ok; ok 1; ok; ok 2 0")
	tells(t, `make "a"; delete "a" "k"; value "a"`, `ok; ok 1; ok 2 1; version "k" 1 marker`)
	tells(t, `make "a"; put "a" "b" "\x00\"\\\xff~\x7f #" "a" "" "b" "\x0a\""; put "a" "a" "x"; put "a" "a\x00" "y"; delete "a" "a"; put "a" "a" "z" "n" "v"; remove "a" "a" 2; value "a"; drop "a"; value "a"`,
		`ok; ok 1; ok 2; ok 3; ok 4; ok 5; ok; ok 6 4; version "a" 4 marker; version "a" 5 data "z"; meta "n" "v"; version "a\x00" 3 data "y"; version "b" 1 data "\x00\"\\\xff~\x7f #"; meta "a" ""; meta "b" "\x0a\""; ok; err 70`)
	tells(t, `import "a" `+quoteOf(packed(of(1<<40+1, api.Version{Key: "k", Seq: 1 << 40, Data: "last"}), 0))+`; value "a"; get "a" "k"; list "a" "" 1; version "a" "k" 1099511627776`,
		`ok; ok 1099511627777 1; version "k" 1099511627776 data "last"; ok; version "k" 1099511627776 data "last"; ok 1; row "k" 1099511627776 data 4; ok; version "k" 1099511627776 data "last"`)
	// A value asks nothing of the power: it is told till the power goes.
	tells(t, `make "a"; fall 1; value "a"; digest; value "a"; make "b"; value "a"; value "A"; crash 0; value "a"; value "b"`,
		`ok; ok; ok 1 0; ok 1; digest "a" `+hashed(packed(of(1), 0))+`; ok 1 0; err 9; err 9; err 9; ok; ok 1 0; err 70`)
}

// TestRows: lists with no row and with many, and from where on.
func TestRows(t *testing.T) {
	ahead := `make "a"; put "a" "k" "abc"; put "a" "j" ""; delete "a" "k"; put "a" "i" "x"; put "a" "i" "xy"; `
	told := "ok; ok 1; ok 2; ok 3; ok 4; ok 5; "
	for _, c := range []struct{ command, want string }{
		{`list "a" "" 9`, `ok 2; row "i" 5 data 2; row "j" 2 data 0`},
		{`list "a" "" 1`, `ok 1; row "i" 5 data 2`},
		{`list "a" "" 0`, "ok 0"}, {`list "a" "" -9223372036854775808`, "ok 0"}, {`list "a" "k" 9`, "ok 0"},
		{`list "a" "i\x00" 9223372036854775807`, `ok 1; row "j" 2 data 0`},
		{`versions "a" "" 9`, `ok 5; row "i" 5 data 2; row "i" 4 data 1; row "j" 2 data 0; row "k" 3 marker; row "k" 1 data 3`},
		{`versions "a" "k" 1`, `ok 1; row "k" 3 marker`},
		{`versions "a" "" 0`, "ok 0"}, {`versions "a" "l" 9`, "ok 0"}, {`versions "a" "" -1`, "ok 0"},
	} {
		tells(t, ahead+c.command, told+c.want)
	}
	text, want := w+"make \"a\"\n", "ok\nok\n"
	rows := ""
	for i := range 256 {
		text += fmt.Sprintf("put \"a\" \"%03d\" \"%s\"\n", i, times(i%5, "x"))
		want += fmt.Sprintf("ok %d\n", i+1)
		rows += fmt.Sprintf("row \"%03d\" %d data %d\n", i, i+1, i%5)
	}
	text += "list \"a\" \"\" 999\nversions \"a\" \"\" 256\n"
	want += "ok 256\n" + rows + "ok 256\n" + rows
	if got, err := run.Play(text); got != want || err != api.OK {
		t.Fatalf("P23.1: 256 rows: %d, %d bytes, want %d", err, len(got), len(want))
	}
}

// TestNames: names in their order, whatever they were made in.
func TestNames(t *testing.T) {
	l := []string{"b", "a-", "aa", "a", "-", "0", times(32, "z"), "a0"}
	sorted := slices.Sorted(slices.Values(l))
	text, want := w, "ok\n"
	for _, name := range l {
		text += "make " + quoteOf(name) + "\nnames\ndigest\n"
	}
	for i := range l {
		here := slices.Sorted(slices.Values(l[:i+1]))
		want += fmt.Sprintf("ok\nok %d\n", i+1)
		for _, name := range here {
			want += "name " + quoteOf(name) + "\n"
		}
		want += fmt.Sprintf("ok %d\n", i+1)
		for _, name := range here {
			want += "digest " + quoteOf(name) + " " + hashed(packed(of(1), 0)) + "\n"
		}
	}
	for i, name := range sorted {
		text += "drop " + quoteOf(name) + "\nnames\n"
		want += fmt.Sprintf("ok\nok %d\n", len(sorted)-i-1)
		for _, name := range sorted[i+1:] {
			want += "name " + quoteOf(name) + "\n"
		}
	}
	got, err := run.Play(text)
	if err != api.OK {
		t.Fatalf("P23.1: names: %d", err)
	}
	wantSame(t, "P23.1: names", text, got, want)
	wantPlay(t, "names", text)
}

// TestUp: ahead of and behind a fall and a crash, with and without archives.
func TestUp(t *testing.T) {
	x, y := exported(packed(of(1), 0)), exported(packed(of(1), 1))
	tells(t, `up; fall 1; up; make "a"; up; fall 0; up; crash 0; up`, `ok yes 0; ok; ok yes 0; err 9; ok no 0; ok; ok no 0; ok; ok yes 0`)
	tells(t, `make "a"; export "a"; since "a" 1; up; since "a" 9; export "b"; up; fall 1; up; names; drop "a"; up; export "a"; up; crash 0; up; export "a"; up`,
		`ok; ok `+x+`; ok `+y+`; ok yes 2; err 1; err 70; ok yes 2; ok; ok yes 2; ok 1; name "a"; err 9; ok no 2; err 9; ok no 2; ok; ok yes 2; ok `+x+`; ok yes 3`)
	tells(t, `make "a"; export "a"; crash 0; up; shelf "b" 0; crash 5 0 1; up; names`, `ok; ok `+x+`; ok; ok yes 1; ok; ok; ok yes 1; ok 2; name "a"; name "b"`)
}

// TestOpening: a crash whose opening loses the power too is told with that error,
// and the world is down till one that doesn't.
func TestOpening(t *testing.T) {
	lost, held := 0, 0
	for at := 1; at < 12; at++ {
		for kept := range 6 {
			for again := range 5 {
				text := w + fmt.Sprintf("make \"a\"\nexport \"a\"\nfall %d\nput \"a\" \"k\" \"x\"\nup\ncrash %d", at, again)
				for i := range kept {
					text += fmt.Sprint(" ", i)
				}
				text += "\nup\nvalue \"a\"\ndigest\nnames\nfall 0\ncrash 0 0 1 2 3\nup\nvalue \"a\"\ndigest\nshelf \"b\" 0\n"
				told := wantPlay(t, "opening", text)
				switch {
				case told[6] == "err 9\n":
					lost++
					if told[7] != "ok no 1\n" || told[8] != "err 9\n" || told[9] != "err 9\n" || told[10] != "err 9\n" || told[13] != "ok yes 1\n" {
						t.Fatalf("P23.1: %q tells %q", text, told)
					}
				case strings.HasPrefix(told[8], "ok 2 1\n"):
					held++
				}
			}
		}
	}
	if lost < 5 || held < 5 {
		t.Errorf("the power went in %d openings, and %d puts under way were held", lost, held)
	}
}

// TestExports: the length and the hash of what is told onto the shelf.
func TestExports(t *testing.T) {
	versions := []api.Version{
		{Key: "j", Seq: 2, Data: times(65, "j")}, {Key: "k", Seq: 1, Data: "one", Meta: pairs("n", "v")},
		{Key: "k", Seq: 3, Marker: true}, {Key: "k", Seq: 4},
	}
	from := func(m int64) string {
		l := slices.DeleteFunc(slices.Clone(versions), func(v api.Version) bool { return v.Seq < m })
		return exported(packed(of(5, l...), m))
	}
	tells(t, `make "a"; put "a" "k" "one" "n" "v"; put "a" "j" "`+times(65, "j")+`"; delete "a" "k"; put "a" "k" ""; export "a"; since "a" 1; since "a" 3; since "a" 4; since "a" 5; since "a" 6; export "a"; up`,
		`ok; ok 1; ok 2; ok 3; ok 4; ok `+from(0)+`; ok `+from(1)+`; ok `+from(3)+`; ok `+from(4)+`; ok `+from(5)+`; err 1; ok `+from(0)+`; ok yes 6`)
}
