package run_test

import (
	"fmt"
	"runtime"
	"strings"
	"sync"
	"testing"

	"coffer/api"
	"coffer/run"
	"coffer/script"
	"coffer/world"
)

// kindsTold counts of each kind of command, a step's behind all others, what it
// has told: OK, or which error.
func kindsTold(counts map[string]int, l []command, tale []string) {
	for i, c := range l {
		kind := -c.Kind
		if c.Kind == script.Step {
			kind = c.Step.Kind
		}
		told, _, _ := strings.Cut(tale[i], "\n")
		if strings.HasPrefix(told, "ok") {
			told = "ok"
		}
		counts[fmt.Sprint(kind, " ", told)]++
	}
}

// wantAll: each kind of command has told all of these.
func wantAll(t *testing.T, counts map[string]int, want map[int]string) {
	t.Helper()
	for kind, all := range want {
		for told := range strings.SplitSeq(all, ", ") {
			if counts[fmt.Sprint(kind, " ", told)] == 0 {
				t.Errorf("no command of kind %d has told %s", kind, told)
			}
		}
	}
}

// TestValues: where the power stays and there is room, scripts tell what the
// model's values do.
func TestValues(t *testing.T) {
	x, counts := seed(11), map[string]int{}
	for range 300 {
		l := x.commands(8192, 2048, 300, true)
		text := printed(t, l)
		tale := valuesOf(l)
		got, err := run.Play(text)
		if err != api.OK {
			t.Fatalf("P23.1: Play(%.300q): %d", text, err)
		}
		wantSame(t, "P23.1: values", text, got, strings.Join(tale, ""))
		kindsTold(counts, l, tale)
	}
	wantAll(t, counts, map[int]string{
		-script.World: "ok", -script.Value: "ok, err 60, err 70", -script.Digest: "ok", -script.Up: "ok",
		world.Make: "ok, err 60, err 71, err 77", world.Drop: "ok, err 60, err 70", world.Put: "ok, err 60, err 61, err 62, err 63, err 70",
		world.Delete: "ok, err 60, err 61, err 70", world.Remove: "ok, err 60, err 61, err 70, err 72", world.Get: "ok, err 60, err 61, err 70, err 72, err 73",
		world.GetVersion: "ok, err 60, err 61, err 70, err 72", world.List: "ok, err 60, err 70", world.Versions: "ok, err 60, err 70", world.Names: "ok",
		world.Export: "ok, err 60, err 70", world.Since: "ok, err 1, err 60, err 70", world.Import: "ok, err 60, err 71, err 77, err 90",
		world.Apply: "ok, err 60, err 70, err 90, err 91", world.ImportShelf: "ok, err 1, err 60, err 71, err 77, err 90",
		world.ApplyShelf: "ok, err 1, err 70, err 90, err 91", world.Crash: "ok",
	})
}

// TestPower: scripts in which the power goes, in great worlds and in small ones,
// tell what a world does.
func TestPower(t *testing.T) {
	x, counts := seed(12), map[string]int{}
	for range 600 {
		size := pick(x, [2]int{8192, 2048}, [2]int{300, 150}, [2]int{40, 20}, [2]int{24, 5}, [2]int{12, 8})
		l := x.commands(size[0], size[1], 60, false)
		kindsTold(counts, l, wantPlay(t, "power", printed(t, l)))
	}
	wantAll(t, counts, map[int]string{
		-script.Value: "ok, err 9, err 70", -script.Digest: "ok, err 9", -script.Up: "ok",
		world.Make: "ok, err 9, err 71", world.Put: "ok, err 9, err 40, err 41", world.Get: "ok, err 9", world.Names: "ok, err 9", world.Export: "ok, err 9",
		world.Import: "ok, err 9", world.Apply: "ok, err 9", world.ImportShelf: "ok, err 9", world.ApplyShelf: "ok, err 9", world.Fall: "ok", world.Crash: "ok, err 9",
	})
}

// loose is the text of commands in another than their own form: remarks and empty
// lines among them, and bytes that are told by their numbers.
func (x *source) loose(text string) string {
	told := ""
	for line := range strings.Lines(text) {
		for x.below(3) == 0 {
			told += pick(x, "\n", "#\n", "# up\n", "#\x00\"\n", "#world 1 1\n")
		}
		head, quoted, _ := strings.Cut(line, `"`)
		if quoted != "" && !strings.Contains(quoted, `\`) && x.below(2) == 0 {
			first, rest, _ := strings.Cut(quoted, `"`)
			line = head + `"`
			for _, c := range []byte(first) {
				line += fmt.Sprintf(`\x%02x`, c)
			}
			line += `"` + rest
		}
		told += line
	}
	if x.below(2) == 0 {
		told = strings.TrimSuffix(told, "\n")
	}
	return told
}

// TestOwnForm: a text tells what its own form tells.
func TestOwnForm(t *testing.T) {
	x, others := seed(13), 0
	for range 300 {
		l := x.commands(300, 150, 40, x.below(2) == 0)
		form := printed(t, l)
		want, err := run.Play(form)
		if err != api.OK {
			t.Fatalf("P23.2: Play(%.300q): %d", form, err)
		}
		text := x.loose(form)
		if text != form {
			others++
		}
		got, err := run.Play(text)
		if err != api.OK {
			t.Fatalf("P23.2: Play(%.300q): %d", text, err)
		}
		wantSame(t, "P23.2: another form", text, got, want)
	}
	if others < 250 {
		t.Errorf("only %d texts were not in their own form", others)
	}
}

// TestFromTheFront: the first so many commands tell the beginning of what all
// tell, and each tells the same number of lines with ok or err.
func TestFromTheFront(t *testing.T) {
	x := seed(14)
	for range 40 {
		l := x.commands(300, 150, 30, x.below(2) == 0)
		all, err := run.Play(printed(t, l))
		if err != api.OK {
			t.Fatalf("P23.3: %d", err)
		}
		before := ""
		for n := 1; n <= len(l); n++ {
			text := printed(t, l[:n])
			got, err := run.Play(text)
			if err != api.OK || !strings.HasPrefix(all, got) || !strings.HasPrefix(got, before) || got == before {
				t.Fatalf("P23.3: Play(%.300q) = %.300q, %d, which all of it doesn't begin with: %.300q", text, got, err, all)
			}
			wantBeginnings(t, "the first commands", got, n)
			before = got
		}
		if before != all {
			t.Fatalf("P23.3: all commands tell %.300q, want %.300q", before, all)
		}
	}
	// Also where what is told comes above what may be.
	text := upTo(t, most-20) + lines(`value "a"; up; value "a"; fall 0; up; names`)
	l, _ := script.Parse(text)
	all, _ := run.Play(text)
	for n := len(l) - 8; n <= len(l); n++ {
		if got, err := run.Play(printed(t, l[:n])); err != api.OK || !strings.HasPrefix(all, got) {
			t.Fatalf("P23.3: the first %d commands of a long tale: %d, %d bytes", n, err, len(got))
		}
	}
}

// TestDigestIsExport: what digest tells of a bucket is the hash that an export of
// it tells, ahead of it and behind it.
func TestDigestIsExport(t *testing.T) {
	x, seen := seed(15), 0
	for range 200 {
		l := x.commands(8192, 2048, 50, true)
		ahead := len(l)
		names := (&values{named: namedBy(l)}).names()
		digest := command{Kind: script.Digest}
		for _, name := range names {
			l = append(l, command{Kind: script.Step, Step: world.Step{Kind: world.Export, Bucket: name}})
		}
		l = append(l, digest)
		for _, name := range names {
			l = append(l, command{Kind: script.Step, Step: world.Step{Kind: world.Export, Bucket: name}})
		}
		tale := wantPlay(t, "digest", printed(t, l))[ahead:]
		want := fmt.Sprintf("ok %d\n", len(names))
		for i, name := range names {
			words := strings.Fields(tale[i])
			if len(words) != 3 || tale[i] != tale[len(names)+1+i] {
				t.Fatalf("P23.4: exports tell %q ahead of a digest, %q behind it", tale[i], tale[len(names)+1+i])
			}
			want += "digest " + quoteOf(name) + " " + words[2] + "\n"
			seen++
		}
		if tale[len(names)] != want {
			t.Fatalf("P23.4: digest tells %q, want %q", tale[len(names)], want)
		}
	}
	if seen < 200 {
		t.Errorf("only %d buckets", seen)
	}
}

// namedBy is the values that commands leave, where the power stays.
func namedBy(l []command) map[string]api.Bucket {
	m := &values{named: map[string]api.Bucket{}}
	taleOf(m, l)
	return m.named
}

// workersScript is one in which digests of many buckets, some great and some
// small, stand among changes.
func workersScript(x *source) string {
	text := w
	for i, name := range []string{"a", "b", "c", "d", "e", "f", "g", "h"} {
		text += fmt.Sprintf("make %q\n", name)
		for j := range i * 2 {
			text += fmt.Sprintf("put %q \"k%d\" \"%s\"\n", name, j, times(x.below(800), name))
		}
		text += "digest\n"
	}
	for range 20 {
		text += fmt.Sprintf("put %q \"k\" \"%s\"\ndigest\n", pick(x, "a", "c", "h"), times(x.below(30), "x"))
	}
	return text + "fall 3\ndelete \"b\" \"k\"\ndigest\ncrash 0 0\ndigest\n"
}

// TestHoweverTheyRun: a text told many times tells the same, with one processor
// and with many.
func TestHoweverTheyRun(t *testing.T) {
	text := workersScript(seed(16))
	told := strings.Join(wantPlay(t, "workers", text), "")
	defer runtime.GOMAXPROCS(runtime.GOMAXPROCS(0))
	for _, n := range []int{1, 2, 3, 8, 16} {
		runtime.GOMAXPROCS(n)
		for range 10 {
			got, err := run.Play(text)
			if err != api.OK {
				t.Fatalf("P23.2: Play with %d processors: %d", n, err)
			}
			wantSame(t, fmt.Sprintf("P23.2: %d processors", n), text, got, told)
		}
	}
	if n := runtime.NumGoroutine(); n > 50 {
		t.Errorf("%d goroutines are left", n)
	}
}

// TestAtOnce: texts told by many at once tell the same, each as by itself; with
// the race detector it also shows that no two workers touch one thing.
func TestAtOnce(t *testing.T) {
	x := seed(17)
	texts := []string{workersScript(x), workersScript(x), "", "world 2 2\n"}
	for range 6 {
		texts = append(texts, printed(t, x.commands(300, 150, 50, x.below(2) == 0)))
	}
	steps := []world.Step{{Kind: world.Make, Bucket: "a"}, {Kind: world.Put, Bucket: "a", Key: "k", Meta: pairs("n", "v")}, {Kind: world.Get, Bucket: "a", Key: "k"}, {Kind: world.Crash, Kept: []int{0, 1}}}
	const toldSteps = "ok\nok\nok 1\nok\nversion \"k\" 1 data \"\"\nmeta \"n\" \"v\"\nok\n"
	var all sync.WaitGroup
	for _, text := range texts {
		tale, wantErr := playOf(text)
		want := strings.Join(tale, "")
		for range 6 {
			all.Go(func() {
				if got, err := run.Play(text); got != want || err != wantErr {
					t.Errorf("P23.2: by many at once Play(%.300q) = %.300q, %d, want %.300q, %d", text, got, err, want, wantErr)
				}
				if got, err := run.Tell(300, 150, steps); got != toldSteps || err != api.OK {
					t.Errorf("P23.2: by many at once Tell = %.300q, %d", got, err)
				}
			})
		}
	}
	all.Wait()
}

// TestNothingKept: what was told, or refused, before is nothing to what is told.
func TestNothingKept(t *testing.T) {
	x := seed(18)
	text := w + lines(`names; up; make "a"; put "a" "k" "d"; export "a"; shelf "b" 0; digest; up`)
	want := strings.Join(wantPlay(t, "kept", text), "")
	for range 60 {
		other := printed(t, x.commands(8192, 2048, 30, false))
		switch x.below(4) {
		case 0:
			other += "ups\n"
		case 1:
			other += w
		}
		run.Play(other)
		run.Tell(8192, 2048, []world.Step{{Kind: world.Make, Bucket: "a"}, {Kind: x.below(22) - 1}})
		got, err := run.Play(text)
		if err != api.OK {
			t.Fatalf("R4: behind %.300q: %d", other, err)
		}
		wantSame(t, "R4: behind another script", text, got, want)
	}
}
