package run

import (
	"fmt"
	"strings"
	"testing"

	"coffer/api"
	"coffer/script"
	"coffer/world"
)

// spoilt is a world with the buckets a to h, in which the versions of some can't
// be read any more; their names can. It writes to the disk beside the store, as
// no script can.
func spoilt(t *testing.T, names string) *world.World {
	t.Helper()
	w, err := world.New(8192, 2048)
	if err != api.OK {
		t.Fatalf("New: %d", err)
	}
	for _, c := range "abcdefgh" {
		w.Do(world.Step{Kind: world.Make, Bucket: string(c)})
		told := w.Do(world.Step{Kind: world.Put, Bucket: string(c), Key: "k", Data: strings.Repeat(string(c)+"!", 512)})
		if told.Err != api.OK {
			t.Fatalf("put: %d", told.Err)
		}
	}
	d := w.Disk()
	for n := 2048; n < d.Sectors(); n++ {
		text, _ := d.Read(n)
		for _, c := range names {
			// What a block has of a great version's data alone.
			if strings.Count(text, string(c)+"!") > 200 {
				d.Write(n, strings.Repeat("x", api.Sector))
			}
		}
	}
	d.Flush()
	return w
}

// TestRefusedExport: where exports are refused the error of the first one, by
// name, is told alone.
func TestRefusedExport(t *testing.T) {
	digest := script.Command{Kind: script.Digest}
	if told := linesOf(spoilt(t, ""), digest); strings.Count(told, "digest ") != 8 || !strings.HasPrefix(told, "ok 8\n") {
		t.Fatalf("P23.1: digest of a world that is whole: %.300q", told)
	}
	for _, names := range []string{"a", "d", "h", "dh", "abcdefgh"} {
		w := spoilt(t, names)
		if got := len(w.Store().Names()); got != 8 {
			t.Fatalf("%d names can be read", got)
		}
		_, err := w.Store().Export(names[:1])
		if err == api.OK {
			t.Fatalf("bucket %q can be read", names[:1])
		}
		want := fmt.Sprintf("err %d\n", int(err))
		if told := linesOf(w, digest); told != want {
			t.Errorf("P23.1: digest where %q can't be read: %.300q, want %q", names, told, want)
		}
		value := script.Command{Kind: script.Value, Bucket: names[:1]}
		if told := linesOf(w, value); told != want {
			t.Errorf("P23.1: value of %q, which can't be read: %.300q, want %q", names[:1], told, want)
		}
	}
}

// TestFirstError: of several errors the first bucket's is told, whichever worker
// was done first.
func TestFirstError(t *testing.T) {
	for _, c := range []struct {
		errs []api.Errno
		want string
	}{
		{nil, "ok 0\n"},
		{[]api.Errno{api.ErrTorn, api.ErrOff}, "err 42\n"},
		{[]api.Errno{api.OK, api.ErrOff, api.ErrTorn}, "err 9\n"},
		{[]api.Errno{api.OK, api.OK, api.ErrArg}, "err 1\n"},
	} {
		var l []digest
		for i, err := range c.errs {
			l = append(l, digest{name: fmt.Sprint(i), err: err})
		}
		if got := toldDigests(l); got != c.want {
			t.Errorf("P23.1: digests with the errors %d: %q, want %q", c.errs, got, c.want)
		}
	}
}

// TestDown: a world that is down has no store.
func TestDown(t *testing.T) {
	if got := digestLines(nil) + valueLines(nil, "a") + valueLines(nil, ""); got != "err 9\nerr 9\nerr 9\n" {
		t.Errorf("P23.1: digest and value of a world that is down: %q", got)
	}
}
