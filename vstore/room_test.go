package vstore_test

import (
	"fmt"
	"slices"
	"strings"
	"testing"

	"coffer/api"
	"coffer/disk"
	"coffer/vstore"
)

// small are disks and logs on which there is soon no room: on some no block is
// free, on others the log is too small.
var small = []struct{ sectors, size int }{{12, 8}, {16, 8}, {24, 5}, {24, 12}, {40, 6}, {40, 20}, {80, 30}, {100, 7}, {160, 10}, {200, 60}}

// follows makes the same calls as on another disk in the same state, and is what
// was told.
func follows(t *testing.T, d *disk.Disk, size int, seed uint64) string {
	t.Helper()
	x := &texter{seed}
	s := opens(t, "behind it", d, size)
	m := valuesOf(t, "behind it", s)
	var all strings.Builder
	for range 60 {
		c := x.call(m, slices.Concat(changes, []string{"Drop", "DeleteVersion", "DeleteVersion"}), 400)
		m, _ = answersForRoom(t, "behind it", s, m, c)
		fmt.Fprintln(&all, c, m)
	}
	return all.String()
}

// TestRefused: calls that are refused for room, many in a row: all is told as
// ahead of them, and what follows finds as much room as without them.
func TestRefused(t *testing.T) {
	refused := map[string]int{}
	for _, one := range small {
		what := fmt.Sprintf("%d sectors, %d of them the log's", one.sectors, one.size)
		x := &texter{uint64(one.sectors)}
		d, s := laid(t, one.sectors, one.size, nil)
		m := model{}
		for range 300 {
			was := d.Copy()
			c := x.call(m, slices.Concat(changes, []string{"Put", "Put", "Put", "Set", "Replace"}), 1024)
			is, isRefused := answersForRoom(t, what, s, m, c)
			if !isRefused {
				m = is
				continue
			}
			for range 5 {
				err := c.ask(s).err
				if !isRoom(err) {
					t.Fatalf("%s: P16.2: %s was refused for room, then: %d", what, c, err)
				}
				refused[fmt.Sprint(c.kind, err)]++
			}
			holds(t, "P16.2: "+what, s, m)
			if !slices.Equal(sectorsOf(t, d)[one.size:], sectorsOf(t, was)[one.size:]) && follows(t, d.Copy(), one.size, 3) != follows(t, was, one.size, 3) {
				t.Fatalf("%s: P16.2: behind what was refused there is another room than ahead of it", what)
			}
		}
		tells(t, "P16.2: "+what, s, m)
	}
	for _, kind := range []string{"Make", "Put", "Delete", "Set", "Replace"} {
		for _, err := range []api.Errno{api.ErrSpace, api.ErrLog} {
			if refused[fmt.Sprint(kind, err)] == 0 {
				t.Errorf("no %s was refused with %d: %v", kind, err, refused)
			}
		}
	}
}

// fills puts versions in buckets till one is refused, and is what is there then.
func fills(t *testing.T, what string, s *vstore.Store, length int) model {
	t.Helper()
	m := model{}
	for _, name := range []string{"a", "b", "c"} {
		isRefused := false
		if m, isRefused = answersForRoom(t, what, s, m, call{kind: "Make", name: name}); isRefused {
			return m
		}
		for n := 0; !isRefused && n < 200; n++ {
			c := call{kind: "Put", name: name, key: fmt.Sprint(n * 7 % 23), data: strings.Repeat("d", length)}
			m, isRefused = answersForRoom(t, what, s, m, c)
		}
	}
	return m
}

// empties takes all away: each bucket as one if that goes, else version by version.
func empties(t *testing.T, what string, s *vstore.Store, m model) {
	t.Helper()
	for _, name := range m.names() {
		isRefused := false
		if m, isRefused = answersForRoom(t, what, s, m, call{kind: "Drop", name: name}); !isRefused {
			continue
		}
		for _, v := range m[name].Versions {
			m = answers(t, what, s, m, call{kind: "DeleteVersion", name: name, key: v.Key, seq: v.Seq})
		}
		m = answers(t, what, s, m, call{kind: "Drop", name: name})
	}
	holds(t, what, s, model{})
}

// TestFillAndEmpty: filled and emptied again and again a store takes as much
// each time.
func TestFillAndEmpty(t *testing.T) {
	for _, one := range small {
		for _, length := range []int{0, 300, 1000} {
			what := fmt.Sprintf("%d sectors, %d of them the log's, %d bytes", one.sectors, one.size, length)
			d, s := laid(t, one.sectors, one.size, nil)
			first := fills(t, what, s, length)
			for range 3 {
				empties(t, what, s, valuesOf(t, what, s))
				if again := fills(t, what, s, length); !again.is(first) {
					t.Fatalf("%s: P16.2: filled again it holds %s, at first %s", what, again, first)
				}
				s = opens(t, what, d, one.size)
			}
		}
	}
}

// TestRefusalsLast: on a full disk what is wrong is told ahead of room.
func TestRefusalsLast(t *testing.T) {
	for _, one := range small {
		_, s := laid(t, one.sectors, one.size, nil)
		m := fills(t, "full", s, 100)
		for _, c := range []call{
			{kind: "Make", name: "A"}, {kind: "Set", name: "A"}, {kind: "Set", name: "new", value: of(0)},
			{kind: "Put", name: "new", key: "k"}, {kind: "Put", name: "a", key: ""}, {kind: "Delete", name: "new", key: "k"},
			{kind: "Replace", name: "new", value: of(1)}, {kind: "Replace", name: "a", value: of(0)},
			{kind: "DeleteVersion", name: "a", key: "none", seq: 1}, {kind: "Drop", name: "new"},
		} {
			answers(t, "P16.1: full", s, m, c)
		}
		holds(t, "P16.2: full", s, m)
	}
}

// TestSmallLog: where the disk is great and the log small what is too much for
// one transaction is refused with ErrLog, and what is little enough goes.
func TestSmallLog(t *testing.T) {
	d, s := laid(t, 4000, 10, model{"a": of(9, v("k", 7))})
	m := valuesOf(t, "a small log", s)
	for range 50 {
		for _, c := range []call{
			{kind: "Set", name: "b", value: filled(256, 60000, 3)},
			{kind: "Replace", name: "a", value: filled(40, 20000, 3)},
		} {
			if err := c.ask(s).err; err != api.ErrLog {
				t.Fatalf("P16.1: %s: %d, want ErrLog", c, err)
			}
		}
		m = answers(t, "a small log", s, m, call{kind: "Put", name: "a", key: "k", data: "more"})
	}
	tells(t, "P16.2: a small log", opens(t, "a small log", d, 10), m)
}

// under makes a call under G, which is not refused for room.
func under(t *testing.T, s *vstore.Store, m model, c call) model {
	t.Helper()
	_, behind := c.by(m)
	if !m.little() || !behind.little() {
		t.Fatalf("G doesn't hold: %s, %s", m, behind)
	}
	return answers(t, "P16.5", s, m, c)
}

// wide is a value of n versions, each of which has so many bytes in the disk's
// form, and a key of 32 bytes.
func wide(n, size, mark int) api.Bucket {
	b := api.Bucket{Next: int64(n) + 1}
	for i := range n {
		key := fmt.Sprintf("%02d%030d", mark, i)
		b.Versions = append(b.Versions, api.Version{Key: key, Seq: int64(n - i), Data: strings.Repeat("w", size-13-32)})
	}
	return b
}

// TestMostUnderG: values as great and as awkward as G allows, each in the place
// of each other, in one bucket with a long name.
func TestMostUnderG(t *testing.T) {
	name := strings.Repeat("n", 32)
	// 149 bytes are the most that stand in an index's leaf, 513 the fewest that
	// take two blocks.
	all := []api.Bucket{
		of(1), wide(256, 45, 1), wide(256, 149, 2), wide(256, 150, 3), wide(256, 237, 4), wide(123, 513, 5), wide(61, 1025, 6), wide(60, 1069, 7),
		wide(256, 149, 8), wide(256, 237, 2), filled(256, 65536, 32), filled(64, 65536, 32),
	}
	_, s := great(t, nil)
	m := model{}
	for i, from := range all {
		for k, to := range all {
			m = under(t, s, m, call{kind: "Set", name: name, value: from})
			m = under(t, s, m, call{kind: "Replace", name: name, value: to})
			if (i+k)%4 == 0 {
				holds(t, "P16.5", s, m)
			}
			m = under(t, s, m, call{kind: "Drop", name: name})
		}
	}
}

// TestWalkUnderG: calls under G are not refused for room, whatever was done
// before, which may be much more than that.
func TestWalkUnderG(t *testing.T) {
	x := &texter{21}
	d, s := great(t, nil)
	m := model{}
	names := []string{"a", "b", "c", "d", "e", "f", strings.Repeat("n", 32), strings.Repeat("n", 31)}
	for round := range 5 {
		for i, name := range names {
			c := call{kind: "Set", name: name, value: one(x, filled(256, 65536, 32), wide(256, 149, i), filled(256, 9000, 3), filled(64, 65536, 32))}
			m, _ = answersForRoom(t, "beyond G", s, m, c)
		}
		for _, name := range m.names() {
			if x.below(9) > 0 || !m.little() {
				m, _ = answersForRoom(t, "beyond G", s, m, call{kind: "Drop", name: name})
			}
		}
		if !m.little() {
			t.Fatalf("round %d: %s", round, m)
		}
		for range 200 {
			c := x.call(m, changes, 1024)
			if _, behind := c.by(m); behind.little() {
				m = under(t, s, m, c)
			} else {
				m = under(t, s, m, call{kind: "Drop", name: c.name})
			}
		}
		tells(t, "P16.4: under G", opens(t, "under G", d, 2048), m)
		for _, name := range m.names() {
			m = under(t, s, m, call{kind: "Drop", name: name})
		}
	}
}

// TestPutsUnderG: versions one by one, up to all that G allows, in eight buckets,
// and taken away one by one; again and again.
func TestPutsUnderG(t *testing.T) {
	_, s := great(t, nil)
	m := model{}
	names := []string{"a", "b", "c", "d", "e", "f", strings.Repeat("n", 32), strings.Repeat("n", 31)}
	for _, name := range names {
		m = under(t, s, m, call{kind: "Make", name: name})
	}
	for round := range 3 {
		for n := range 256 {
			key := fmt.Sprintf("%032d", n*(7+2*round)%256)
			c := call{kind: "Put", name: names[n%(8-3*round)], key: key, data: strings.Repeat("d", 192-60*round)}
			m = under(t, s, m, c)
		}
		holds(t, "P16.5", s, m)
		for n := range 256 {
			name := names[n%(8-3*round)]
			l := m[name].Versions
			v := l[n*5%len(l)]
			m = under(t, s, m, call{kind: "DeleteVersion", name: name, key: v.Key, seq: v.Seq})
		}
		holds(t, "P16.5", s, m)
	}
}
