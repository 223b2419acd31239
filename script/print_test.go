package script_test

import (
	"fmt"
	"math"
	"runtime"
	"slices"
	"testing"

	"coffer/api"
	"coffer/script"
	"coffer/world"
)

// everything is a command with all fields set.
func everything(kind, step int) command {
	return command{Kind: kind, Sectors: 101, Size: -102, Bucket: "command's", Step: world.Step{
		Kind: step, Bucket: "bucket", Key: "k\"", Data: "d\\", Meta: pairs("n", "v", "", "\n"), Seq: 103, N: -104, Kept: []int{105, 0, -106},
	}}
}

// TestPrint: every kind, with fields set that it doesn't name.
func TestPrint(t *testing.T) {
	for _, none := range [][]command{nil, {}} {
		if text, err := script.Print(none); text != "" || err != api.OK {
			t.Errorf("P22.1: Print of no command = %q, %d", text, err)
		}
	}
	want := map[[2]int]string{
		{1, 0}: "world 101 -102", {3, 0}: `value "command's"`, {4, 0}: "digest", {5, 0}: "up",
		{2, 1}: `make "bucket"`, {2, 2}: `drop "bucket"`, {2, 3}: `put "bucket" "k\"" "d\\" "n" "v" "" "\x0a"`, {2, 4}: `delete "bucket" "k\""`,
		{2, 5}: `remove "bucket" "k\"" 103`, {2, 6}: `get "bucket" "k\""`, {2, 7}: `version "bucket" "k\"" 103`, {2, 8}: `list "bucket" "k\"" -104`,
		{2, 9}: `versions "bucket" "k\"" -104`, {2, 10}: "names", {2, 11}: `export "bucket"`, {2, 12}: `since "bucket" 103`, {2, 13}: `import "bucket" "d\\"`,
		{2, 14}: `apply "bucket" "d\\"`, {2, 15}: `shelf "bucket" -104`, {2, 16}: `patch "bucket" -104`, {2, 17}: "fall -104", {2, 18}: "crash -104 105 0 -106",
	}
	if len(want) != 22 {
		t.Fatalf("the test has %d kinds", len(want))
	}
	var all []command
	lines := ""
	for kinds, line := range want {
		c := everything(kinds[0], kinds[1])
		for _, other := range []int{c.Step.Kind, -1, 7, 18, 19} { // looked at in steps alone
			if c.Kind != script.Step {
				c.Step.Kind = other
			}
			if got, err := script.Print([]command{c}); got != line+"\n" || err != api.OK {
				t.Errorf("P22.1: Print(%s) = %q, %d, want %q", short(c), got, err, line+"\n")
			}
			wantPrint(t, "all fields set", []command{c})
		}
		all = append(all, c)
		lines += line + "\n"
	}
	if got, err := script.Print(all); got != lines || err != api.OK {
		t.Errorf("P22.1: Print of all kinds = %q, %d, want %q", got, err, lines)
	}
	wantPrint(t, "all kinds", all)
	for _, r := range rows {
		wantPrint(t, "no field set", []command{{Kind: r.kind, Step: world.Step{Kind: r.step}}})
	}
}

// TestNoKind: a command or a step whose Kind is none, by itself and among others.
func TestNoKind(t *testing.T) {
	up := command{Kind: script.Up}
	refused := func(c command) {
		t.Helper()
		for _, l := range [][]command{{c}, {c, up}, {up, c}, {up, up, c, up}, {c, c}} {
			wantNotPrinted(t, "no kind", l, api.ErrScript)
		}
	}
	for _, kind := range []int{math.MinInt, -256, -18, -5, -2, -1, 0, 6, 7, 10, 18, 19, 255, 256, 257, 258, 259, 1 << 32, 1<<32 + 2, math.MaxInt} {
		for step := range 20 {
			refused(everything(kind, step))
		}
		refused(command{Kind: kind})
	}
	for _, step := range []int{math.MinInt, -18, -1, 0, 19, 20, 32, 255, 256, 257, 1 << 32, 1<<32 + 1, math.MaxInt} {
		refused(everything(script.Step, step))
		refused(stepOf(world.Step{Kind: step}))
		for _, kind := range []int{script.World, script.Value, script.Digest, script.Up} {
			wantPrint(t, "a question's step", []command{everything(kind, step)})
		}
	}
}

// TestPrintNumbers: the least and the greatest, in each field.
func TestPrintNumbers(t *testing.T) {
	for _, n := range []int64{least, least + 1, -1 << 32, -10, -1, 0, 1, 9, 10, 1 << 31, 1 << 32, greatest - 1, greatest} {
		for _, r := range rows {
			c := command{Kind: r.kind, Sectors: int(n), Size: int(n), Step: world.Step{Kind: r.step, Seq: n, N: int(n), Kept: []int{int(n), 0, int(n)}}}
			wantPrint(t, "a number", []command{c})
		}
	}
}

// crashOfSize is a command whose line has so many bytes, most of them of Kept.
func crashOfSize(n int) command {
	s := world.Step{Kind: world.Crash, N: 5, Kept: slices.Repeat([]int{7}, (n-len("crash 5"))/2)}
	if n%2 == 0 {
		s.N = 55
	}
	return stepOf(s)
}

// TestPrintLong: commands whose text is as long as may be and longer, by bytes,
// by lines and by one line's bytes.
func TestPrintLong(t *testing.T) {
	up := command{Kind: script.Up}
	refusedAbove := func(what string, l []command, isLong bool) {
		t.Helper()
		wantPrint(t, what, l)
		if text, err := script.Print(l); (err == api.ErrLong) != isLong || isLong && text != "" {
			t.Errorf("P22.1: %s: Print = %d bytes, %d", what, len(text), err)
		}
	}
	for _, n := range []int{1023, 1024, 1025, 1026, 5000, 30000} {
		refusedAbove(fmt.Sprint(n, " lines"), slices.Repeat([]command{up}, n), n > 1024)
	}
	// A line's bytes, by each sort of word that may be long.
	for over := -3; over <= 3; over++ {
		for what, c := range map[string]command{
			"make's bucket":   stepOf(world.Step{Kind: world.Make, Bucket: times(8192-len(`make ""`)+over, "a")}),
			"a value":         {Kind: script.Value, Bucket: times(8192-len(`value ""`)+over, "a")},
			"get's key":       stepOf(world.Step{Kind: world.Get, Key: times(8192-len(`get "" ""`)+over, "a")}),
			"import's data":   stepOf(world.Step{Kind: world.Import, Data: times(8192-len(`import "" ""`)+over, " ")}),
			"escaped":         stepOf(world.Step{Kind: world.Apply, Data: times(2000, "\x00") + times(8192-8000-len(`apply "" ""`)+over, "a")}),
			"quotes":          stepOf(world.Step{Kind: world.Apply, Data: times(4000, "\"") + times(8192-8000-len(`apply "" ""`)+over, "a")}),
			"a pair's name":   stepOf(world.Step{Kind: world.Put, Meta: pairs(times(8192-len(`put "" "" "" "" ""`)+over, "a"), "")}),
			"a pair's value":  stepOf(world.Step{Kind: world.Put, Meta: pairs("", times(8192-len(`put "" "" "" "" ""`)+over, "a"))}),
			"many pairs":      stepOf(world.Step{Kind: world.Put, Bucket: times(8192-len(`put "" "" ""`)-6000+over, "a"), Meta: make([]api.Pair, 1000)}),
			"many kept":       crashOfSize(8192 + over),
			"a number's last": stepOf(world.Step{Kind: world.Since, Bucket: times(8192-len(`since "" -17`)+over, "a"), Seq: -17}),
		} {
			refusedAbove(fmt.Sprint(what, " ", over), []command{c}, over > 0)
			refusedAbove(fmt.Sprint(what, " ", over, " among others"), []command{up, c, up}, over > 0)
		}
	}
	// All bytes together: seven lines of 8191 and one that makes the rest.
	for over := -3; over <= 3; over++ {
		l := slices.Repeat([]command{stepOf(world.Step{Kind: world.Make, Bucket: times(8191-len(`make ""`), "a")})}, 7)
		l = append(l, up, stepOf(world.Step{Kind: world.Make, Bucket: times(8191-len("up\n")-len(`make ""`)+over, "a")}))
		refusedAbove(fmt.Sprint("all bytes ", over), l, over > 0)
	}
}

// allocated is how many bytes of memory f takes.
func allocated(f func()) uint64 {
	var before, after runtime.MemStats
	runtime.ReadMemStats(&before)
	f()
	runtime.ReadMemStats(&after)
	return after.TotalAlloc - before.TotalAlloc
}

// TestPrintVeryLong: of what is far too long no more is made than tells so.
func TestPrintVeryLong(t *testing.T) {
	great := times(1<<26, "\x00")
	for i, l := range [][]command{
		{{Kind: script.Value, Bucket: great}},
		{stepOf(world.Step{Kind: world.Put, Bucket: great, Key: great, Data: great, Meta: slices.Repeat(pairs(great, great), 1000)})},
		{stepOf(world.Step{Kind: world.Put, Meta: make([]api.Pair, 1<<22)})},
		{stepOf(world.Step{Kind: world.Put, Meta: slices.Repeat(pairs("", great), 1000)})},
		{stepOf(world.Step{Kind: world.Crash, Kept: make([]int, 1<<24)})},
		{stepOf(world.Step{Kind: world.Import, Bucket: times(8100, "a"), Data: great})},
		slices.Repeat([]command{{Kind: script.Up}}, 1<<20),
	} {
		l := slices.Repeat(l, 1+100/len(l))
		if n := allocated(func() { wantNotPrinted(t, "far too long", l, api.ErrLong) }); n > 1<<21 {
			t.Errorf("P22.1: Print of commands that are far too long, number %d, takes %d bytes", i, n)
		}
	}
	// What a kind doesn't name is not looked at, be it ever so long.
	c := command{Kind: script.Up, Bucket: great, Step: world.Step{Bucket: great, Key: great, Data: great, Meta: slices.Repeat(pairs(great, great), 10), Kept: make([]int, 1<<22)}}
	if text, err := script.Print([]command{c}); text != "up\n" || err != api.OK {
		t.Errorf("P22.1: Print of up with long fields = %.100q, %d", text, err)
	}
	c.Kind, c.Step.Kind = script.Step, world.Names
	if text, err := script.Print([]command{c}); text != "names\n" || err != api.OK {
		t.Errorf("P22.1: Print of names with long fields = %.100q, %d", text, err)
	}
}
