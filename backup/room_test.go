package backup_test

import (
	"fmt"
	"slices"
	"strings"
	"testing"

	"coffer/api"
	"coffer/backup"
	"coffer/disk"
)

// small are disks and logs on which there is soon no room: on some no block is
// free, on others the log is too small.
var small = []struct{ sectors, size int }{{12, 8}, {16, 8}, {24, 5}, {24, 12}, {40, 6}, {40, 20}, {80, 30}, {100, 7}, {160, 10}, {200, 60}}

// follows makes some calls on a disk, and is what was told.
func follows(t *testing.T, d *disk.Disk, size, n int) string {
	t.Helper()
	x := seed(n)
	s := opens(t, "behind it", d, size)
	m := valuesOf(t, "behind it", s)
	var all strings.Builder
	for range 60 {
		c := x.call(m, slices.Concat(changes, []string{"Drop", "DeleteVersion", "DeleteVersion"}), 400)
		m, _ = answersForRoom(t, "behind it", s, m, c)
		fmt.Fprintln(&all, c, m)
	}
	return all.String()
}

// TestRefused: calls that are refused for room, many in a row: all is told as
// ahead of them, and what follows finds as much room as without them.
func TestRefused(t *testing.T) {
	refused := map[string]int{}
	for _, one := range small {
		what := fmt.Sprintf("%d sectors, %d of them the log's", one.sectors, one.size)
		x := seed(one.sectors)
		d, s := laid(t, one.sectors, one.size, nil)
		m := model{}
		for range 300 {
			was := d.Copy()
			c := x.call(m, slices.Concat(changes, []string{"Put", "Import", "Import", "Apply", "Apply", "Apply"}), 1024)
			is, isRefused := answersForRoom(t, what, s, m, c)
			if !isRefused {
				m = is
				continue
			}
			for range 5 {
				err := c.ask(s).err
				if !isRoom(err) {
					t.Fatalf("%s: P20.5: %s was refused for room, then: %d", what, c, err)
				}
				refused[fmt.Sprint(c.kind, err)]++
			}
			holds(t, "P20.5: "+what, s, m)
			if !slices.Equal(sectorsOf(t, d)[one.size:], sectorsOf(t, was)[one.size:]) && follows(t, d.Copy(), one.size, 3) != follows(t, was, one.size, 3) {
				t.Fatalf("%s: P20.5: behind what was refused there is another room than ahead of it", what)
			}
		}
		tells(t, "P20.5: "+what, s, m)
		tells(t, "P20.5: "+what+", opened anew", opens(t, what, d, one.size), m)
	}
	for _, kind := range []string{"Put", "Import", "Apply"} {
		for _, err := range []api.Errno{api.ErrSpace, api.ErrLog} {
			if refused[fmt.Sprint(kind, err)] == 0 {
				t.Errorf("no %s was refused with %d: %v", kind, err, refused)
			}
		}
	}
}

// TestRefusalsLast: on a full disk what is wrong is told ahead of room.
func TestRefusalsLast(t *testing.T) {
	whole, great := packed(of(3, v("k", 2)), 0), filled(200, 60000, 5, 9)
	for _, one := range small {
		d, s := laid(t, one.sectors, one.size, nil)
		m, isRefused := answersForRoom(t, "full", s, model{}, call{kind: "Import", name: "a", text: packed(of(9, v("k", 7)), 0)})
		if isRefused {
			m = answers(t, "full", s, model{}, call{kind: "Make", name: "a"})
		}
		next := m["a"].Next
		for _, c := range []struct {
			c    call
			want api.Errno
		}{
			{call{kind: "Import", name: "A", text: packed(great, 0)}, 60},
			{call{kind: "Import", name: "a", text: packed(great, 0)}, 71},
			{call{kind: "Import", name: "new", text: packed(great, 0) + "x"}, 90},
			{call{kind: "Import", name: "new", text: packed(great, 9)}, 90},
			{call{kind: "Apply", name: "A", text: packed(great, next)}, 60},
			{call{kind: "Apply", name: "new", text: packed(great, next)}, 70},
			{call{kind: "Apply", name: "a", text: packed(great, next)[1:]}, 90},
			{call{kind: "Apply", name: "a", text: packed(great, 2)}, 91},
			{call{kind: "Apply", name: "a", text: whole}, 90},
		} {
			if got := c.c.ask(s); !got.is(told{err: c.want}) {
				t.Fatalf("R2: %s on a disk of %d sectors: %s, want %d", c.c, one.sectors, got, c.want)
			}
		}
		for _, c := range []call{{kind: "Import", name: "new", text: packed(great, 0)}, {kind: "Apply", name: "a", text: packed(great, next)}} {
			if got := c.ask(s); !isRoom(got.err) || !got.is(told{err: got.err}) {
				t.Fatalf("%s on a disk of %d sectors: %s", c, one.sectors, got)
			}
		}
		holds(t, "P20.5: full", s, m)
		tells(t, "P20.5: full, opened anew", opens(t, "full", d, one.size), m)
	}
}

// TestSmallLog: where the disk is great and the log small what is too much for
// one transaction is refused with ErrLog, and what is little enough goes.
func TestSmallLog(t *testing.T) {
	d, s := laid(t, 4000, 10, model{"a": of(9, v("k", 7))})
	m := valuesOf(t, "a small log", s)
	for range 50 {
		next := m["a"].Next
		for _, c := range []call{
			{kind: "Import", name: "b", text: packed(filled(256, 60000, 3, 1), 0)},
			{kind: "Apply", name: "a", text: packed(filled(40, 20000, 3, next), next)},
		} {
			wants(t, "P20.1: "+c.String(), c.ask(s).err, api.ErrLog)
		}
		m = answers(t, "a small log", s, m, call{kind: "Apply", name: "a", text: packed(of(next+2, gone("k", next+1)), next)})
	}
	m = answers(t, "a small log", s, m, call{kind: "Import", name: "b", text: packed(of(9, v("k", 7)), 0)})
	tells(t, "P20.5: a small log", opens(t, "a small log", d, 10), m)
}

// under makes a call under G, which is not refused for room.
func under(t *testing.T, s *backup.Store, m model, c call) model {
	t.Helper()
	_, behind := c.by(m)
	if !m.little() || !behind.little() {
		t.Fatalf("G doesn't hold: %s, %s", m, behind)
	}
	return answers(t, "G", s, m, c)
}

// wide is a value of n versions, each of which has so many bytes in the disk's
// form, and a key of 32 bytes, with the numbers from one on.
func wide(n, size, mark int, from int64) api.Bucket {
	b := api.Bucket{Next: from + int64(n)}
	for i := range n {
		key := fmt.Sprintf("%030d%02d", i, mark)
		b.Versions = append(b.Versions, api.Version{Key: key, Seq: from + int64(n-1-i), Data: times(size-13-32, "w")})
	}
	return b
}

// TestMostUnderG: archives as great and as awkward as G allows, imported; what
// half of one has laid on half of another, whose keys stand between.
func TestMostUnderG(t *testing.T) {
	name := times(32, "n")
	// 149 bytes are the most that stand in an index's leaf, 513 the fewest that
	// take two blocks.
	sizes := []struct{ n, size int }{{256, 45}, {256, 149}, {256, 150}, {256, 237}, {122, 513}, {60, 1025}, {60, 1069}}
	d, s := great(t, nil)
	m := model{}
	for i, first := range sizes {
		m = under(t, s, m, call{kind: "Import", name: name, text: packed(wide(first.n, first.size, i, 1), 0)})
		holds(t, "G", s, m)
		m = under(t, s, m, call{kind: "Drop", name: name})
		for k, second := range sizes {
			b := wide(first.n/2, first.size, i, 1)
			m = under(t, s, m, call{kind: "Import", name: name, text: packed(b, 0)})
			m = under(t, s, m, call{kind: "Apply", name: name, text: packed(wide(second.n/2, second.size, 10+k, b.Next), b.Next)})
			holds(t, "G", s, m)
			m = under(t, s, m, call{kind: "Drop", name: name})
		}
		b := wide(first.n, first.size, i, 7)
		m = under(t, s, m, call{kind: "Import", name: name, text: packed(of(7), 0)})
		m = under(t, s, m, call{kind: "Apply", name: name, text: packed(b, 7)})
		holds(t, "G", opens(t, "G", d, 2048), m)
		m = under(t, s, m, call{kind: "Drop", name: name})
	}
}

// TestWalkUnderG: calls under G are not refused for room, whatever was done
// before, which may be much more than that.
func TestWalkUnderG(t *testing.T) {
	x := seed(21)
	d, s := great(t, nil)
	m := model{}
	names := []string{"a", "b", "c", "d", "e", "f", times(32, "n"), times(31, "n")}
	for round := range 4 {
		for i, name := range names {
			c := call{kind: "Import", name: name, text: packed(one(x, filled(256, 65536, 32, 1), wide(256, 149, i, 1), filled(256, 9000, 3, 1), filled(64, 65536, 32, 1)), 0)}
			m, _ = answersForRoom(t, "beyond G", s, m, c)
		}
		for _, name := range m.names() {
			if x.below(9) > 0 || !m.little() {
				m, _ = answersForRoom(t, "beyond G", s, m, call{kind: "Drop", name: name})
			}
		}
		if !m.little() {
			t.Fatalf("round %d: %s", round, m)
		}
		for range 150 {
			c := x.call(m, changes, 1024)
			if _, behind := c.by(m); behind.little() {
				m = under(t, s, m, c)
			} else {
				m = under(t, s, m, call{kind: "Drop", name: c.name})
			}
		}
		tells(t, "under G", opens(t, "under G", d, 2048), m)
		for _, name := range m.names() {
			m = under(t, s, m, call{kind: "Drop", name: name})
		}
	}
}
