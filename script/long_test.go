package script_test

import (
	"fmt"
	"slices"
	"strings"
	"testing"

	"coffer/api"
	"coffer/script"
	"coffer/world"
)

func times(n int, s string) string { return strings.Repeat(s, n) }

// ofSize is a line of so many bytes, without its end.
func ofSize(n int, line string) string {
	switch line {
	case "make":
		return `make "` + times(n-len(`make ""`), "a") + `"`
	case "crash":
		return "crash 1" + times((n-len("crash 1"))/2, " 2") + times((n-len("crash 1"))%2, "3")
	case "put":
		head := `put "" "" ""`
		return head + times((n-len(head))/6-1, ` "" ""`) + ` "" "` + times((n-len(head))%6, "v") + `"`
	}
	return line + times(n-len(line), "x")
}

// TestLongLines: lines of as many bytes as may be, and of one more, at the
// beginning, between others and at the end, with their end and without.
func TestLongLines(t *testing.T) {
	for _, line := range []string{"make", "crash", "put", "#", "# make \"", "wrong"} {
		for _, n := range []int{8190, 8191, 8192, 8193, 8194, 16384, 60000} {
			long := ofSize(n, line)
			if len(long) != n {
				t.Fatalf("the test's own line %s of %d bytes has %d", line, n, len(long))
			}
			for _, text := range []string{long, long + "\n", "up\n" + long, "up\n" + long + "\nup\n", "\n" + long + "\n\n", "#\n" + long + "\n#"} {
				wantParse(t, "a long line", text)
				if _, err := script.Parse(text); (err == api.ErrLong) != (n > api.MaxLine) {
					t.Errorf("P22.1: a line %s of %d bytes: %d", line, n, err)
				}
			}
		}
	}
	// Two lines aren't one.
	text := ofSize(8192, "make") + "\n" + ofSize(8192, "#") + "\n" + ofSize(8192, "crash") + "\n" + ofSize(8192, "put")
	wantParse(t, "long lines", text)
	if l, err := script.Parse(text); len(l) != 3 || err != api.OK {
		t.Errorf("P22.1: four long lines: %d commands, %d", len(l), err)
	}
	wantRefused(t, "a blank too many", ofSize(8192, "make")+" ", api.ErrLong)
	wantRefused(t, "a line of bytes that none may have", times(8193, "\x00"), api.ErrLong)
	wantRefused(t, "a line of bytes that none may have", times(8192, "\x00"), api.ErrScript)
}

// TestManyLines: as many lines as may be, and one more; those that say nothing
// count.
func TestManyLines(t *testing.T) {
	x := seed(11)
	for _, n := range []int{1, 1022, 1023, 1024, 1025, 1026, 2048, 20000} {
		for _, line := range []string{"up", "", "#", "x", `make "a"`} {
			for _, last := range []string{"", "up", "#", "x", "\n", "#\n"} {
				text := times(n, line+"\n") + last
				if len(text) <= api.MaxScript {
					wantParse(t, fmt.Sprintf("%d lines %q and %q", n, line, last), text)
				}
			}
			text := strings.TrimSuffix(times(n, line+"\n"), "\n")
			wantParse(t, fmt.Sprintf("%d lines %q, the last without its end", n, line), text)
		}
		var lines []string
		for range n {
			lines = append(lines, pick(x, "up", "", "#", "names"))
		}
		for _, text := range []string{strings.Join(lines, "\n"), strings.Join(lines, "\n") + "\n", strings.Join(lines, "\n") + "\nup"} {
			wantParse(t, fmt.Sprint(n, " lines of all sorts"), text)
		}
	}
	for _, c := range []struct {
		text string
		n    int
		err  api.Errno
	}{
		{times(1024, "up\n"), 1024, api.OK},
		{times(1023, "up\n") + "up", 1024, api.OK},
		{times(1024, "up\n") + "up", 0, api.ErrLong},
		{times(1025, "up\n"), 0, api.ErrLong},
		{times(1024, "\n"), 0, api.OK},
		{times(1025, "\n"), 0, api.ErrLong},
		{times(1024, "\n") + "#", 0, api.ErrLong},
		{times(512, "up\n\n"), 512, api.OK},
		{times(512, "up\n#\n") + "\n", 0, api.ErrLong},
		{times(1023, "#\n") + "up", 1, api.OK},
	} {
		if l, err := script.Parse(c.text); len(l) != c.n || err != c.err {
			t.Errorf("P22.1: Parse of %d lines: %d commands, %d, want %d, %d", strings.Count(c.text, "\n"), len(l), err, c.n, c.err)
		}
	}
}

// TestLongTexts: texts of as many bytes as may be, and of one more.
func TestLongTexts(t *testing.T) {
	for _, line := range []string{"make", "#", "crash"} {
		whole := times(8, ofSize(8191, line)+"\n") // 65536 bytes
		ends := times(7, ofSize(8191, line)+"\n") + ofSize(8192, line)
		for _, text := range []string{whole, ends} {
			if len(text) != api.MaxScript {
				t.Fatalf("the test's own text has %d bytes", len(text))
			}
			wantParse(t, "as long as may be", text)
			if _, err := script.Parse(text); err != api.OK {
				t.Errorf("P22.1: a text of %d bytes: %d", len(text), err)
			}
			wantRefused(t, "one byte more", text+"\n", api.ErrLong)
			wantRefused(t, "one byte more", "\n"+text, api.ErrLong)
			wantRefused(t, "one byte more", text+"x", api.ErrLong)
		}
	}
	// A text without its last end may have no form of its own: it would be a byte
	// longer.
	ends := times(7, ofSize(8191, "make")+"\n") + ofSize(8192, "make")
	l, err := script.Parse(ends)
	if err != api.OK || len(l) != 8 {
		t.Fatalf("P22.1: %d commands, %d, want 8", len(l), err)
	}
	wantNotPrinted(t, "a byte longer than what was read", l, api.ErrLong)
	l[3].Step.Bucket = l[3].Step.Bucket[1:]
	if text, err := script.Print(l); err != api.OK || len(text) != api.MaxScript {
		t.Errorf("P22.1: Print of a text as long as may be: %d bytes, %d", len(text), err)
	}
	for _, n := range []int{65537, 65538, 131072, 1 << 20} {
		for _, text := range []string{times(n, "x"), times(n, "\n"), times(n, "\x00"), times(n/3+1, "up\n"), times(n/100+1, ofSize(99, "#")+"\n"), times(n/8192+1, ofSize(8191, "#")+"\n")} {
			wantRefused(t, "a long text", text, api.ErrLong)
		}
	}
}

// TestWhichError: of a text that is too long and has a wrong line, that it is too
// long, wherever the one and the other stand; of commands one of which is none,
// that it is none, however long the others are.
func TestWhichError(t *testing.T) {
	for _, wrong := range []string{"x", "make", "up ", "\t", "fall 03"} {
		for _, long := range []string{ofSize(8193, "#"), ofSize(8193, "make"), times(1025, "\n"), times(1025, "up\n"), times(65536, "#"), times(9, ofSize(8191, "#")+"\n")} {
			wantRefused(t, "both", wrong+"\n"+long, api.ErrLong)
			wantRefused(t, "both", long+"\n"+wrong, api.ErrLong)
			wantRefused(t, "both", "up\n"+wrong+"\n"+long+"\nup\n", api.ErrLong)
		}
	}
	for _, none := range []command{{}, {Kind: 6}, {Kind: -1}, stepOf(world.Step{}), stepOf(world.Step{Kind: 19, Data: times(70000, "a")})} {
		for _, long := range [][]command{
			{stepOf(world.Step{Kind: world.Make, Bucket: times(9000, "a")})},
			slices.Repeat([]command{{Kind: script.Up}}, 1025),
			slices.Repeat([]command{stepOf(world.Step{Kind: world.Make, Bucket: times(8000, "a")})}, 9),
			{stepOf(world.Step{Kind: world.Crash, Kept: make([]int, 100000)})},
		} {
			wantNotPrinted(t, "too long alone", long, api.ErrLong)
			wantNotPrinted(t, "both", append([]command{none}, long...), api.ErrScript)
			wantNotPrinted(t, "both", append(slices.Clone(long), none), api.ErrScript)
			wantNotPrinted(t, "both", append(slices.Clone(long), none, command{Kind: script.Up}), api.ErrScript)
		}
	}
}
