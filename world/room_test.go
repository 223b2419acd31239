package world_test

import (
	"fmt"
	"slices"
	"testing"

	"coffer/api"
	"coffer/world"
)

// smallDisks are disks and logs on which there is soon no room: on some no block
// is free, on others the log is too small.
var smallDisks = []struct{ sectors, size int }{{12, 8}, {16, 8}, {24, 5}, {24, 12}, {40, 6}, {40, 20}, {80, 30}, {100, 7}, {160, 10}, {200, 60}}

// TestRefused: steps that are refused for room, many in a row: refused is
// nothing, also no room, and nothing goes onto the shelf; and a crash changes
// nothing of that.
func TestRefused(t *testing.T) {
	refused := map[string]int{}
	for _, one := range smallDisks {
		what := fmt.Sprintf("%d sectors, %d of them the log's", one.sectors, one.size)
		x := seed(one.sectors)
		w, m := begun(t, one.sectors, one.size), model{}
		for range 300 {
			s := x.step(m, slices.Concat(changes, []int{world.Put, world.Import, world.Import, world.Apply, world.ApplyShelf, world.Export, world.Since}), 1024)
			is, isRefused := answersForRoom(t, what, w, m, s)
			m = is
			for i := 0; isRefused && i < 5; i++ {
				got := w.Do(s)
				if !isRoom(got.Err) || !isAlone(got, got.Err) {
					t.Fatalf("%s: R2: %s was refused for room, then: %s", what, said(s), toldAs(got))
				}
				refused[fmt.Sprint(s.Kind, " ", got.Err)]++
				if i == 3 {
					alone(t, what, w, world.Step{Kind: world.Crash}, api.OK)
				}
			}
			if isRefused {
				holds(t, "R2: "+what, w, m)
			}
			if w.Disk().Pending() != 0 {
				t.Fatalf("%s: %d writes are pending", what, w.Disk().Pending())
			}
		}
		alone(t, what, w, world.Step{Kind: world.Crash}, api.OK)
		tells(t, "R2: "+what+", opened anew", w, m)
	}
	for _, kind := range []int{world.Put, world.Import, world.Apply, world.ImportShelf} {
		for _, err := range []api.Errno{api.ErrSpace, api.ErrLog} {
			if refused[fmt.Sprint(kind, " ", err)] == 0 {
				t.Errorf("no step of kind %d was refused with %d: %v", kind, err, refused)
			}
		}
	}
}

// TestNoRoomLost: what was refused for room, however often, takes none: behind it
// there is as much as in a world in which it was never asked for.
func TestNoRoomLost(t *testing.T) {
	for _, one := range smallDisks {
		fills := func(tries int) int {
			w, m := begunWith(t, one.sectors, one.size, nil)
			for range tries {
				_, isRefused := answersForRoom(t, "no room", w, m, world.Step{Kind: world.Import, Bucket: "great", Data: packed(filled(200, 60000, 5, 1), 0)})
				if !isRefused {
					t.Fatalf("%v: there is room for all of it", one)
				}
			}
			m, isRefused := answersForRoom(t, "no room", w, m, world.Step{Kind: world.Make, Bucket: "a"})
			for n := 0; !isRefused; n++ {
				if n > 200 {
					t.Fatalf("%v: there is room for more than a bucket may have", one)
				}
				m, isRefused = answersForRoom(t, "no room", w, m, world.Step{Kind: world.Put, Bucket: "a", Key: fmt.Sprint(n), Data: times(400, "d")})
			}
			return len(m.values["a"].Versions)
		}
		if first, behind := fills(0), fills(9); first != behind {
			t.Errorf("R2: %v: %d versions go where nothing was refused, %d behind refusals", one, first, behind)
		}
	}
}

// TestRefusalsLast: on a full disk what is wrong is told ahead of room, and what
// the power does ahead of that.
func TestRefusalsLast(t *testing.T) {
	text := packed(filled(200, 60000, 5, 9), 0)
	for _, one := range smallDisks {
		w, m := begunWith(t, one.sectors, one.size, nil)
		m = answers(t, "full", w, m, world.Step{Kind: world.Make, Bucket: "a"})
		delta := packed(filled(200, 60000, 5, 1), 1)
		for _, c := range []struct {
			s    world.Step
			want api.Errno
		}{
			{world.Step{Kind: world.Import, Bucket: "A", Data: text}, 60},
			{world.Step{Kind: world.Import, Bucket: "a", Data: text}, 71},
			{world.Step{Kind: world.Import, Bucket: "new", Data: text + "x"}, 90},
			{world.Step{Kind: world.Apply, Bucket: "A", Data: delta}, 60},
			{world.Step{Kind: world.Apply, Bucket: "new", Data: delta}, 70},
			{world.Step{Kind: world.Apply, Bucket: "a", Data: text}, 90},
			{world.Step{Kind: world.Apply, Bucket: "a", Data: packed(filled(200, 60000, 5, 2), 2)}, 91},
			{world.Step{Kind: world.ImportShelf, Bucket: "new"}, 1},
		} {
			alone(t, "R2", w, c.s, c.want)
		}
		full := []world.Step{{Kind: world.Import, Bucket: "new", Data: text}, {Kind: world.Apply, Bucket: "a", Data: delta}}
		for _, s := range full {
			if got := w.Do(s); !isRoom(got.Err) || !isAlone(got, got.Err) {
				t.Fatalf("R2: %s on a disk of %d sectors: %s", said(s), one.sectors, toldAs(got))
			}
		}
		holds(t, "R2: full", w, m)
		w.Disk().Crash(nil)
		for _, s := range full {
			alone(t, "R2: off", w, s, api.ErrOff)
		}
		alone(t, "R2: full", w, world.Step{Kind: world.Crash}, api.OK)
		holds(t, "R2: full", w, m)
	}
}

// TestUnderG: steps under G are not refused for room, whatever was done before,
// which may be much more than that.
func TestUnderG(t *testing.T) {
	x := seed(21)
	w, m := great(t, nil)
	under := func(s world.Step) {
		t.Helper()
		if _, behind := m.by(s); !m.little() || !behind.little() {
			s = world.Step{Kind: world.Drop, Bucket: s.Bucket}
		}
		m = answers(t, "G", w, m, s)
	}
	for range 3 {
		for _, name := range []string{"a", "b", "c", "d", "e", "f", times(32, "n"), times(31, "n")} {
			s := world.Step{Kind: world.Import, Bucket: name, Data: packed(one(x, filled(256, 65536, 32, 1), filled(256, 9000, 3, 1), filled(64, 65536, 32, 1)), 0)}
			m, _ = answersForRoom(t, "beyond G", w, m, s)
		}
		for _, name := range m.names() {
			m, _ = answersForRoom(t, "beyond G", w, m, world.Step{Kind: world.Drop, Bucket: name})
		}
		under(world.Step{Kind: world.Import, Bucket: "a", Data: packed(filled(200, 50000, 9, 1), 0)})
		for range 200 {
			under(x.step(m, slices.Concat(changes, []int{world.Export, world.Since}), 1024))
		}
		alone(t, "G", w, world.Step{Kind: world.Crash}, api.OK)
		m = tells(t, "G", w, m)
		for _, name := range m.names() {
			under(world.Step{Kind: world.Drop, Bucket: name})
		}
	}
}
