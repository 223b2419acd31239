package run_test

import (
	"fmt"
	"strings"
	"testing"

	"coffer/api"
	"coffer/run"
)

// begun is a world with a bucket whose value is long, a small one, and one for
// what is laid to fill; and how many bytes it tells.
func begun() (string, int) {
	text := w + lines(`make "a"; make "b"; make "f"; put "b" "k" "d"`)
	size := len(lines("ok; ok; ok; ok; ok 1"))
	for i := 1; i <= 20; i++ {
		text += fmt.Sprintf("put \"a\" \"k\" \"%s\"\n", times(1024, "d"))
		size += len(fmt.Sprintf("ok %d\n", i))
	}
	return text, size
}

// upTo is a text that tells just so many bytes, its world up and nothing on its
// shelf.
func upTo(t *testing.T, total int) string {
	t.Helper()
	text, size := begun()
	value := len("ok 21 20\n")
	for i := 1; i <= 20; i++ {
		value += len(fmt.Sprintf("version \"k\" %d data \"%s\"\n", i, times(1024, "d")))
	}
	text += times((total-size-3000)/value, "value \"a\"\n")
	size += (total - size - 3000) / value * value
	get := len(fmt.Sprintf("ok\nversion \"k\" 20 data \"%s\"\n", times(1024, "d")))
	text += times((total-size-100)/get, "get \"a\" \"k\"\n")
	size += (total - size - 100) / get * get
	fill := total - size - len("ok 1\nok\nversion \"k\" 1 data \"\"\n")
	if fill > 1024 {
		text += fmt.Sprintf("put \"f\" \"j\" \"%s\"\nget \"f\" \"j\"\n", times(500, "f"))
		fill -= len(fmt.Sprintf("ok 1\nok\nversion \"j\" 1 data \"%s\"\n", times(500, "f")))
	}
	text += fmt.Sprintf("put \"f\" \"k\" \"%s\"\nget \"f\" \"k\"\n", times(fill, "f"))
	if got, err := run.Play(text); len(got) != total || err != api.OK {
		t.Fatalf("P23.1: a text of %d bytes tells %d, %d, want %d", len(text), len(got), err, total)
	}
	return text
}

// wantBehind: behind a text that tells so many bytes commands tell these lines.
func wantBehind(t *testing.T, total int, commands, want string) {
	t.Helper()
	ahead := upTo(t, total)
	text := ahead + lines(commands)
	got, err := run.Play(text)
	if err != api.OK || len(got) < total || got[total:] != lines(want) {
		t.Fatalf("P23.1: behind %d bytes %s tells %.300q, %d, want %s", total, commands, got[min(total, len(got)):], err, want)
	}
	wantBeginnings(t, commands, got, strings.Count(text, "\n"))
}

// TestMost: up to just as many bytes as may be told, and one more.
func TestMost(t *testing.T) {
	for _, c := range []struct{ command, told string }{
		{`up`, "ok yes 0"}, {`fall 0`, "ok"}, {`crash 0`, "ok"}, {`make "A"`, "err 60"}, {`get "b" "k"`, `ok; version "k" 1 data "d"`}, {`delete "b" "k"`, "ok 2"}, {`names`, `ok 3; name "a"; name "b"; name "f"`},
		{`value "b"`, `ok 2 1; version "k" 1 data "d"`}, {`versions "b" "" 9`, `ok 1; row "k" 1 data 1`}, {`export "b"`, "ok " + exported(packed(of(2, api.Version{Key: "k", Seq: 1, Data: "d"}), 0))},
	} {
		n := len(lines(c.told))
		wantBehind(t, most-n-1, c.command, c.told)
		wantBehind(t, most-n, c.command, c.told)
		wantBehind(t, most-n+1, c.command, "err 3")
		wantBehind(t, most-n, c.command+`; fall 0; `+c.command, c.told+"; err 3; err 3")
		wantPlay(t, "one byte more", upTo(t, most-n+1)+lines(c.command+"; "+c.command))
		wantBehind(t, most, c.command, "err 3")
		wantBehind(t, most, c.command+"; "+c.command+"; names", "err 3; err 3; err 3")
	}
}

// TestAbove: the line itself comes above what may be told, by each number of
// bytes that it can, and many come behind it.
func TestAbove(t *testing.T) {
	for left := range 9 {
		want := "err 3"
		if left >= 3 {
			want = "ok"
		}
		wantBehind(t, most-left, "fall 0", want)
		wantBehind(t, most-left, `value "a"`, "err 3")
		wantBehind(t, most-left, `value "a"; value "a"; digest; names`, "err 3; err 3; err 3; err 3")
	}
	ahead := upTo(t, most)
	n := 1024 - strings.Count(ahead, "\n")
	got, err := run.Play(ahead + times(n, "up\n"))
	if err != api.OK || len(got) != most+6*n || got[most:] != times(n, "err 3\n") {
		t.Fatalf("P23.1: behind all that may be told %d commands tell %.300q, %d", n, got[min(most, len(got)):], err)
	}
}

// TestDoneAllTheSame: a command whose lines are too long is done, and those behind
// it are told as long as there is room.
func TestDoneAllTheSame(t *testing.T) {
	wantBehind(t, most-70, `export "b"; up; shelf "c" 0; value "a"; names; get "c" "k"`, `err 3; ok yes 1; ok; err 3; ok 4; name "a"; name "b"; name "c"; name "f"; err 3`)
	wantBehind(t, most-70, `since "b" 1; fall 1; up; make "c"; value "a"; up`, `err 3; ok; ok yes 1; err 9; err 9; ok no 1`)
	wantBehind(t, most-30, `value "a"; get "a" "k"; up; list "a" "" 9`, `err 3; err 3; ok yes 0; err 3`)
	wantBehind(t, most-30, `get "b" "k"; up`, `ok; version "k" 1 data "d"; err 3`)
	// What is told in the place of lines that are too long counts as what was told.
	wantBehind(t, most-15, `value "a"; up; fall 0`, `err 3; ok yes 0; err 3`)
	wantBehind(t, most-14, `value "a"; up; fall 0`, `err 3; err 3; err 3`)
	wantBehind(t, most-12, `value "a"; value "a"; fall 0; fall 0`, `err 3; err 3; err 3; err 3`)
}
