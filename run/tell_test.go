package run_test

import (
	"fmt"
	"strings"
	"testing"

	"coffer/api"
	"coffer/run"
	"coffer/script"
	"coffer/world"
)

// asCommands is a world and steps as commands.
func asCommands(sectors, size int, l []world.Step) []command {
	all := []command{{Kind: script.World, Sectors: sectors, Size: size}}
	for _, s := range l {
		all = append(all, command{Kind: script.Step, Step: s})
	}
	return all
}

// wantTell: Tell answers as the chapter says: it is what is told.
func wantTell(t *testing.T, what string, sectors, size int, l []world.Step) (string, api.Errno) {
	t.Helper()
	want, wantErr := "", api.ErrScript
	if text, err := script.Print(asCommands(sectors, size, l)); err == api.OK {
		tale, err := playOf(text)
		want, wantErr = strings.Join(tale, ""), err
	}
	got, err := run.Tell(sectors, size, l)
	if err != wantErr {
		t.Fatalf("P23.1: %s: Tell(%d, %d, %d steps): %d, want %d", what, sectors, size, len(l), err, wantErr)
	}
	wantSame(t, "P23.1: Tell: "+what, fmt.Sprintf("%d steps", len(l)), got, want)
	return got, err
}

// TestTell: no step, steps of every kind, and each by itself.
func TestTell(t *testing.T) {
	for _, none := range [][]world.Step{nil, {}} {
		if got, err := wantTell(t, "no step", 8192, 2048, none); got != "ok\n" || err != api.OK {
			t.Fatalf("P23.1: Tell of no step = %q, %d", got, err)
		}
	}
	x, y := packed(of(1), 0), packed(of(2, api.Version{Key: "j", Seq: 1, Data: "d"}), 1)
	z := packed(of(2, api.Version{Key: "j", Seq: 1, Data: "d"}), 0)
	var steps []world.Step
	want := "ok\n"
	for _, c := range []struct {
		s    world.Step
		told string
	}{
		{world.Step{Kind: world.Make, Bucket: "a"}, "ok"}, {world.Step{Kind: world.Export, Bucket: "a"}, "ok " + exported(x)},
		{world.Step{Kind: world.ImportShelf, Bucket: "b"}, "ok"}, {world.Step{Kind: world.Import, Bucket: "c", Data: z}, "ok"},
		{world.Step{Kind: world.Apply, Bucket: "b", Data: y}, "ok"}, {world.Step{Kind: world.Since, Bucket: "b", Seq: 1}, "ok " + exported(y)},
		{world.Step{Kind: world.ApplyShelf, Bucket: "a", N: 1}, "ok"}, {world.Step{Kind: world.Put, Bucket: "a", Key: "k", Data: "x", Meta: pairs("n", "v", "o", "")}, "ok 2"},
		{world.Step{Kind: world.Get, Bucket: "a", Key: "k"}, `ok; version "k" 2 data "x"; meta "n" "v"; meta "o" ""`},
		{world.Step{Kind: world.Delete, Bucket: "a", Key: "j"}, "ok 3"}, {world.Step{Kind: world.GetVersion, Bucket: "a", Key: "j", Seq: 3}, `ok; version "j" 3 marker`},
		{world.Step{Kind: world.List, Bucket: "a", N: 9}, `ok 1; row "k" 2 data 1`}, {world.Step{Kind: world.Versions, Bucket: "a", Key: "j", N: 2}, `ok 2; row "j" 3 marker; row "j" 1 data 1`},
		{world.Step{Kind: world.Remove, Bucket: "a", Key: "j", Seq: 3}, "ok"}, {world.Step{Kind: world.Get, Bucket: "a", Key: "j"}, `ok; version "j" 1 data "d"`},
		{world.Step{Kind: world.Names}, `ok 3; name "a"; name "b"; name "c"`}, {world.Step{Kind: world.Fall, N: 1}, "ok"}, {world.Step{Kind: world.Drop, Bucket: "b"}, "err 9"},
		{world.Step{Kind: world.Crash, N: 0, Kept: []int{2, 0, 0, -1}}, "ok"}, {world.Step{Kind: world.Drop, Bucket: "c"}, "ok"}, {world.Step{Kind: world.Names}, `ok 2; name "a"; name "b"`},
	} {
		steps = append(steps, c.s)
		want += lines(c.told)
		if got, err := wantTell(t, "every kind", 8192, 2048, steps); got != want || err != api.OK {
			t.Fatalf("P23.1: Tell of %d steps = %q, %d, want %q", len(steps), got, err, want)
		}
		wantTell(t, "alone", 8192, 2048, []world.Step{c.s})
	}
}

// TestTellFields: what a step's kind doesn't name is not looked at.
func TestTellFields(t *testing.T) {
	full := world.Step{Bucket: "a", Key: "k", Data: "d", Meta: pairs("n", "v"), Seq: 1, N: 0, Kept: []int{0}}
	for kind := 1; kind <= 18; kind++ {
		full.Kind = kind
		wantTell(t, "all fields", 8192, 2048, []world.Step{full, full})
	}
	got, err := run.Tell(8192, 2048, []world.Step{{Kind: world.Names, Bucket: times(9000, "A"), Data: times(70000, "\x00"), Meta: pairs("", times(9000, "x")), Kept: make([]int, 9000)}, {Kind: world.Fall, Key: times(9000, "k"), Seq: -1}})
	if got != "ok\nok 0\nok\n" || err != api.OK {
		t.Fatalf("P23.1: fields that names doesn't name: %q, %d", got, err)
	}
}

// TestTellRefused: steps that Print refuses with each of its errors, and worlds
// that New refuses.
func TestTellRefused(t *testing.T) {
	first, last := world.Step{Kind: world.Make, Bucket: "a"}, world.Step{Kind: world.Names}
	refused := func(what string, sectors, size int, l ...world.Step) {
		t.Helper()
		if got, err := wantTell(t, what, sectors, size, l); got != "" || err != api.ErrScript {
			t.Fatalf("P23.1: %s: Tell(%d, %d, ..) = %.300q, %d, want nothing, 110", what, sectors, size, got, err)
		}
	}
	for _, kind := range []int{0, -1, 19, 20, 99, -9223372036854775808, 9223372036854775807} {
		refused("a kind that is none", 8192, 2048, world.Step{Kind: kind})
		refused("a kind that is none", 8192, 2048, first, world.Step{Kind: kind, Bucket: "a"}, last)
		refused("a kind that is none, and no world", 2, 2, world.Step{Kind: kind})
	}
	for _, s := range []world.Step{
		{Kind: world.Import, Bucket: "a", Data: times(9000, "x")}, {Kind: world.Import, Bucket: "a", Data: times(2100, "\x00")}, {Kind: world.Make, Bucket: times(8192, "a")},
		{Kind: world.Crash, Kept: make([]int, 4096)}, {Kind: world.Put, Bucket: "a", Key: "k", Meta: make([]api.Pair, 2000)}, {Kind: world.Put, Bucket: "a", Data: times(1<<20, "d")},
	} {
		if _, err := script.Print(asCommands(8192, 2048, []world.Step{s})); err != api.ErrLong {
			t.Fatalf("Print of a step of kind %d: %d", s.Kind, err)
		}
		refused("a line that is too long", 8192, 2048, s)
		refused("a line that is too long", 8192, 2048, first, s, last)
	}
	for _, size := range [][2]int{{2, 2}, {0, 0}, {-1, 4}, {8193, 2048}, {8192, 8192}, {8192, 3}, {8192, -9223372036854775808}, {9223372036854775807, 9223372036854775807}} {
		refused("no world", size[0], size[1])
		refused("no world", size[0], size[1], first, last)
	}
}

// TestTellMost: as many steps as a script may have, and one more; as many bytes,
// and one more.
func TestTellMost(t *testing.T) {
	steps := make([]world.Step, 1023, 5000)
	for i := range steps {
		steps[i] = world.Step{Kind: world.Names}
	}
	if got, err := wantTell(t, "1023 steps", 300, 150, steps); got != "ok\n"+times(1023, "ok 0\n") || err != api.OK {
		t.Fatalf("P23.1: Tell of 1023 steps: %d, %d bytes", err, len(got))
	}
	for _, n := range []int{1024, 1025, 2000, 5000} {
		more := append(steps, make([]world.Step, n-len(steps))...)
		for i := range more {
			more[i] = world.Step{Kind: world.Names}
		}
		if got, err := wantTell(t, "too many steps", 300, 150, more); got != "" || err != api.ErrScript {
			t.Fatalf("P23.1: Tell of %d steps: %d, %d bytes", n, err, len(got))
		}
		more[len(more)-1].Kind = 0
		if got, err := wantTell(t, "too many steps, the last none", 300, 150, more); got != "" || err != api.ErrScript {
			t.Fatalf("P23.1: Tell of %d steps: %d, %d bytes", n, err, len(got))
		}
	}
	var long []world.Step
	left := 65536 - len(w)
	for left > 8000 {
		long = append(long, world.Step{Kind: world.Import, Bucket: "a", Data: times(8000-len("import \"a\" \"\"\n"), "x")})
		left -= 8000
	}
	for _, more := range []int{0, 1} {
		l := append(long, world.Step{Kind: world.Import, Bucket: "a", Data: times(left-len("import \"a\" \"\"\n")+more, "x")})
		want, wantErr := "ok\n"+times(len(l), "err 90\n"), api.OK
		if more > 0 {
			want, wantErr = "", api.ErrScript
		}
		if got, err := wantTell(t, "many bytes", 8192, 2048, l); got != want || err != wantErr {
			t.Fatalf("P23.1: Tell of %d bytes: %q, %d, want %q, %d", 65536+more, got, err, want, wantErr)
		}
	}
}

// TestTellIsPlay: steps of all kinds, in worlds great and small.
func TestTellIsPlay(t *testing.T) {
	x := seed(21)
	for range 300 {
		var l []world.Step
		for _, c := range x.commands(300, 150, 40, x.below(2) == 0) {
			if c.Kind == script.Step {
				l = append(l, c.Step)
			}
		}
		if x.below(30) == 0 {
			l = append(l, world.Step{Kind: pick(x, 0, 19, -1)})
		}
		wantTell(t, "steps", pick(x, 8192, 300, 300, 60), pick(x, 150, 20, 40), l)
	}
}
