package disk_test

import (
	"math"
	"slices"
	"strconv"
	"strings"
	"testing"
	"unsafe"

	"coffer/api"
	"coffer/disk"
)

// texter tells texts and numbers that look like chance and are the same each time.
type texter struct{ x uint64 }

func (t *texter) number() uint64 {
	t.x += 0x9e3779b97f4a7c15
	z := t.x
	z = (z ^ z>>30) * 0xbf58476d1ce4e5b9
	z = (z ^ z>>27) * 0x94d049bb133111eb
	return z ^ z>>31
}

func (t *texter) below(n int) int { return int(t.number() % uint64(n)) }

// text has n bytes of all kinds.
func (t *texter) text(n int) string {
	b := make([]byte, n)
	for i := range b {
		b[i] = byte(t.number())
	}
	return string(b)
}

// around is a number that is mostly within 0 and end, and often at or beyond
// one of them.
func (t *texter) around(end int) int {
	switch t.below(12) {
	case 0:
		return -1
	case 1:
		return end
	case 2:
		return []int{math.MinInt, math.MaxInt, end + 1, -2, 1 << 32}[t.below(5)]
	case 3:
		return end - 1
	}
	return t.below(max(end, 1))
}

// full is a sector of one letter.
func full(c byte) string { return strings.Repeat(string([]byte{c}), 512) }

// write is a pending write of the model.
type write struct {
	n    int
	text string
}

// model is a disk as the chapter tells it: what is seen is not held but found,
// from what is safe and the pending writes, each time that it is asked for.
type model struct {
	safe []string
	late []write
	off  bool
	open bool
	left int // Writes and Flushes ahead of the fall; -1: none is said
}

func newModel(sectors int) *model {
	m := &model{left: -1}
	for range sectors {
		m.safe = append(m.safe, strings.Repeat("\x00", 512))
	}
	return m
}

// over is what is in sector n with those pending writes laid that are asked for.
func (m *model) over(n int, laid func(i int) bool) string {
	for i := len(m.late) - 1; i >= 0; i-- {
		if m.late[i].n == n && laid(i) {
			return m.late[i].text
		}
	}
	return m.safe[n]
}

func all(int) bool { return true }

// rest makes what would be seen with those writes laid safe.
func (m *model) rest(laid func(i int) bool) {
	var now []string
	for n := range m.safe {
		now = append(now, m.over(n, laid))
	}
	m.safe, m.late = now, nil
}

func (m *model) read(n int) (string, api.Errno) {
	switch {
	case m.off:
		return "", api.ErrOff
	case n < 0 || n >= len(m.safe):
		return "", api.ErrArg
	}
	return m.over(n, all), api.OK
}

// step is the fall of a Write or Flush that nothing else refuses.
func (m *model) step() api.Errno {
	if m.left == 0 {
		m.left, m.off, m.open = -1, true, true
		return api.ErrOff
	}
	if m.left > 0 {
		m.left--
	}
	return api.OK
}

func (m *model) write(n int, text string) api.Errno {
	switch {
	case m.off:
		return api.ErrOff
	case n < 0 || n >= len(m.safe) || len(text) != 512:
		return api.ErrArg
	}
	err := m.step()
	if err == api.OK {
		m.late = append(m.late, write{n, text})
	}
	return err
}

func (m *model) flush() api.Errno {
	if m.off {
		return api.ErrOff
	}
	err := m.step()
	if err == api.OK {
		m.rest(all)
	}
	return err
}

func (m *model) fall(n int) { m.left = max(n, 0) - 1 }

func (m *model) crash(kept []int) {
	if !m.off || m.open {
		m.rest(func(i int) bool { return slices.Contains(kept, i) })
		m.off, m.open, m.left = true, false, -1
	}
}

func (m *model) on() {
	if m.open {
		m.crash(nil)
	}
	m.off = false
}

func (m *model) copy() *model {
	c := *m
	c.safe, c.late = slices.Clone(m.safe), slices.Clone(m.late)
	return &c
}

// same: does the disk answer as the model does, in all that changes nothing?
func same(t *testing.T, promise string, d *disk.Disk, m *model) {
	t.Helper()
	if d == nil {
		t.Fatalf("%s: no disk", promise)
	}
	if d.Sectors() != len(m.safe) || d.Off() != m.off || d.Pending() != len(m.late) {
		t.Fatalf("%s: Sectors %d, Off %v, Pending %d, want %d, %v, %d", promise, d.Sectors(), d.Off(), d.Pending(), len(m.safe), m.off, len(m.late))
	}
	for n := -1; n <= len(m.safe); n++ {
		got, err := d.Read(n)
		want, e := m.read(n)
		if got != want || err != e {
			t.Fatalf("%s: Read(%d) = %.4q.., %d, want %.4q.., %d", promise, n, got, err, want, e)
		}
	}
}

// deep is same, and in copies what is safe too: with none of the pending writes
// kept, with all of them, and with one in two.
func deep(t *testing.T, promise string, d *disk.Disk, m *model) {
	t.Helper()
	same(t, promise, d, m)
	for by := range 3 {
		var kept []int
		for i := range m.late {
			if by > 0 && i%by == 0 {
				kept = append(kept, i)
			}
		}
		dc, mc := d.Copy(), m.copy()
		dc.Crash(kept)
		mc.crash(kept)
		same(t, promise, dc, mc)
		dc.On()
		mc.on()
		same(t, promise, dc, mc)
	}
}

func made(t *testing.T, sectors int) *disk.Disk {
	t.Helper()
	d, err := disk.New(sectors)
	if d == nil || err != api.OK {
		t.Fatalf("P6.1: New(%d): %d", sectors, err)
	}
	return d
}

func wants(t *testing.T, what string, got, want api.Errno) {
	t.Helper()
	if got != want {
		t.Errorf("%s: %d, want %d", what, got, want)
	}
}

// holds: are the sectors, from the first on, full of these letters?
func holds(t *testing.T, what string, d *disk.Disk, letters string) {
	t.Helper()
	for i := range len(letters) {
		got, err := d.Read(i)
		if got != full(letters[i]) || err != api.OK {
			t.Errorf("%s: Read(%d) = %.4q.., %d, want %q", what, i, got, err, letters[i:i+1])
		}
	}
}

// lay writes letters, each in the sector behind it: "b1" is b in sector 1.
func lay(t *testing.T, d *disk.Disk, writes ...string) {
	t.Helper()
	for _, w := range writes {
		wants(t, "P6.1: Write of "+w, d.Write(int(w[1]-'0'), full(w[0])), api.OK)
	}
}

func TestSizes(t *testing.T) {
	for _, n := range []int{1, 2, 7, 512, 8191, 8192} {
		same(t, "P6.1: new", made(t, n), newModel(n))
	}
	for _, n := range []int{0, -1, 8193, math.MinInt, math.MaxInt, 1 << 32, 1<<32 + 1} {
		if d, err := disk.New(n); d != nil || err != api.ErrArg {
			t.Errorf("P6.1: New(%d): %v, %d, want nil and %d", n, d != nil, err, api.ErrArg)
		}
	}
}

// TestSectors: the first and the last sector are there, those beside them are not.
func TestSectors(t *testing.T) {
	for _, size := range []int{1, 4, 8192} {
		d := made(t, size)
		for _, n := range []int{0, size - 1} {
			wants(t, "P6.1: Write", d.Write(n, full('a')), api.OK)
		}
		pending := d.Pending()
		for _, n := range []int{-1, size, size + 1, math.MinInt, math.MaxInt, 1 << 32, -size} {
			wants(t, "P6.1: Write to no sector", d.Write(n, full('b')), api.ErrArg)
			got, err := d.Read(n)
			wants(t, "P6.1: Read of no sector", err, api.ErrArg)
			if got != "" {
				t.Errorf("P6.1: Read(%d) of %d sectors: %.4q", n, size, got)
			}
		}
		if d.Pending() != pending {
			t.Errorf("P6.4: %d pending, want %d", d.Pending(), pending)
		}
		holds(t, "P6.4: refused writes", d, "a")
		if got, _ := d.Read(size - 1); got != full('a') {
			t.Errorf("P6.1: the last of %d sectors", size)
		}
	}
}

func TestLengths(t *testing.T) {
	d := made(t, 2)
	lay(t, d, "a0")
	for _, n := range []int{0, 1, 510, 511, 513, 514, 1023, 1024, 1536} {
		wants(t, "P6.1: Write of a wrong length", d.Write(0, strings.Repeat("b", n)), api.ErrArg)
		wants(t, "P6.1: Write of a wrong length to no sector", d.Write(2, strings.Repeat("b", n)), api.ErrArg)
	}
	holds(t, "P6.4: wrong lengths", d, "a\x00")
	if d.Pending() != 1 {
		t.Errorf("P6.4: %d pending, want 1", d.Pending())
	}
	all := ""
	for b := range 512 {
		all += string([]byte{byte(b)})
	}
	wants(t, "P6.1: Write of all bytes", d.Write(1, all), api.OK)
	if got, err := d.Read(1); got != all || err != api.OK {
		t.Errorf("P6.1: Read of all bytes: %d", err)
	}
}

// second is the disk of the chapter's second example, ahead of its crash.
func second(t *testing.T) *disk.Disk {
	t.Helper()
	d := made(t, 4)
	lay(t, d, "a1")
	wants(t, "P6.1: Flush", d.Flush(), api.OK)
	lay(t, d, "b1", "c2", "c1")
	return d
}

func TestExamples(t *testing.T) {
	d := made(t, 4)
	holds(t, "P6.1", d, "\x00\x00\x00\x00")
	lay(t, d, "a1")
	holds(t, "P6.1", d, "\x00a\x00\x00")
	if d.Pending() != 1 {
		t.Errorf("P6.1: Pending: %d", d.Pending())
	}
	wants(t, "P6.1: Write of a short text", d.Write(1, "a"), api.ErrArg)
	wants(t, "P6.1: Flush", d.Flush(), api.OK)
	if d.Pending() != 0 {
		t.Errorf("P6.1: Pending: %d", d.Pending())
	}

	d = second(t)
	d.Crash([]int{0})
	_, err := d.Read(1)
	wants(t, "P6.1: Read", err, api.ErrOff)
	d.On()
	holds(t, "P6.3", d, "\x00b\x00\x00")

	d = made(t, 2)
	d.Fall(2)
	lay(t, d, "a0")
	wants(t, "P6.1: Write", d.Write(9, full('a')), api.ErrArg)
	wants(t, "P6.1: Flush", d.Flush(), api.ErrOff)
	if !d.Off() || d.Pending() != 1 {
		t.Errorf("P6.1: Off %v, Pending %d", d.Off(), d.Pending())
	}
	wants(t, "P6.1: Write", d.Write(0, full('b')), api.ErrOff)
	other := d.Copy()
	d.Crash([]int{0})
	d.On()
	holds(t, "P6.1: Crash(0)", d, "a\x00")
	other.On()
	holds(t, "P6.1: On alone", other, "\x00\x00")
}

// TestKept: of two pending writes to one sector the later of those that are
// kept is there; how a number stands among the kept doesn't matter.
func TestKept(t *testing.T) {
	for _, c := range []struct {
		kept []int
		want string
	}{
		{nil, "a0"}, {[]int{}, "a0"}, {[]int{0}, "b0"}, {[]int{1}, "ac"}, {[]int{2}, "d0"},
		{[]int{0, 1}, "bc"}, {[]int{0, 2}, "d0"}, {[]int{2, 0}, "d0"}, {[]int{1, 2}, "dc"}, {[]int{2, 1, 0}, "dc"},
		{[]int{0, 0, 0}, "b0"}, {[]int{2, 0, 0, 9}, "d0"}, {[]int{1, 0, 1, 0}, "bc"},
		{[]int{-1}, "a0"}, {[]int{3}, "a0"}, {[]int{-1, 3, 0}, "b0"}, {[]int{math.MinInt, math.MaxInt, 1}, "ac"},
		{[]int{1 << 32, 1<<32 + 1, 1<<32 + 2, -1 << 32, 256, 257, 258}, "a0"}, {[]int{-1, -2, -3}, "a0"},
	} {
		for _, fallen := range []bool{false, true} {
			d := made(t, 3)
			lay(t, d, "00", "01", "02", "a1")
			wants(t, "P6.1: Flush", d.Flush(), api.OK)
			lay(t, d, "b1", "c2", "d1")
			if fallen {
				d.Fall(1)
				wants(t, "P6.1: Flush", d.Flush(), api.ErrOff)
			}
			d.Crash(c.kept)
			if !d.Off() || d.Pending() != 0 {
				t.Errorf("P6.1: behind a crash: Off %v, Pending %d", d.Off(), d.Pending())
			}
			d.On()
			holds(t, "P6.3", d, "0"+c.want)
			d.Crash(nil)
			d.On()
			holds(t, "P6.2: what a crash left is safe", d, "0"+c.want)
		}
	}
}

// TestManyKept: behind many pending writes each sector holds the last of the
// kept ones, in whatever order their numbers stand.
func TestManyKept(t *testing.T) {
	g := &texter{61}
	for range 20 {
		d, m := made(t, 9), newModel(9)
		for range 400 {
			n, text := g.below(9), g.text(512)
			wants(t, "P6.1: Write", d.Write(n, text), m.write(n, text))
		}
		var kept []int
		for range g.below(60) {
			kept = append(kept, g.around(400))
		}
		deep(t, "P6.3: many pending writes", d, m)
		d.Crash(kept)
		m.crash(kept)
		d.On()
		m.on()
		deep(t, "P6.3: many pending writes", d, m)
	}
}

// TestOff: a disk that is off refuses whatever would read or change it, with
// ErrOff ahead of ErrArg.
func TestOff(t *testing.T) {
	for _, fallen := range []bool{false, true} {
		d := second(t)
		if fallen {
			d.Fall(1)
			wants(t, "P6.1: Flush", d.Flush(), api.ErrOff)
		} else {
			d.Crash(nil)
		}
		pending := d.Pending()
		if (pending == 3) != fallen || !d.Off() || d.Sectors() != 4 {
			t.Errorf("P6.1: fallen %v: Pending %d, Off %v, Sectors %d", fallen, pending, d.Off(), d.Sectors())
		}
		for _, n := range []int{0, 1, 3, 4, -1, math.MaxInt} {
			got, err := d.Read(n)
			wants(t, "P6.1: Read", err, api.ErrOff)
			if got != "" {
				t.Errorf("P6.1: Read of a disk that is off: %.4q", got)
			}
			wants(t, "P6.1: Write", d.Write(n, full('x')), api.ErrOff)
			wants(t, "P6.1: Write", d.Write(n, "x"), api.ErrOff)
		}
		wants(t, "P6.1: Flush", d.Flush(), api.ErrOff)
		if !d.Off() || d.Pending() != pending {
			t.Errorf("P6.4: Off %v, Pending %d", d.Off(), d.Pending())
		}
		d.On()
		holds(t, "P6.4: calls while it is off", d, "\x00a\x00\x00")
		if d.Off() || d.Pending() != 0 {
			t.Errorf("P6.1: behind On: Off %v, Pending %d", d.Off(), d.Pending())
		}
	}
}

// TestCrashOff: a disk that is off by Crash isn't changed by a second one.
func TestCrashOff(t *testing.T) {
	d := second(t)
	d.Crash([]int{1})
	d.Crash([]int{0, 1, 2})
	d.Fall(1)
	d.Crash(nil)
	d.On()
	holds(t, "P6.1: a crash of a disk that is off", d, "\x00ac\x00")
	wants(t, "P6.1: what Fall said stands behind a crash that did nothing", d.Flush(), api.ErrOff)
	d.Crash(nil)
	d.Fall(1)
	d.Crash(nil)
	d.On()
	wants(t, "P6.1: Crash closes what was open, the second does nothing", d.Flush(), api.ErrOff)
}

// TestOnOn: On of a disk that is on leaves all as it is.
func TestOnOn(t *testing.T) {
	d := second(t)
	d.Fall(2)
	d.On()
	if d.Pending() != 3 || d.Off() {
		t.Errorf("P6.1: Pending %d, Off %v", d.Pending(), d.Off())
	}
	holds(t, "P6.1: On", d, "\x00cc\x00")
	lay(t, d, "e0")
	d.On()
	wants(t, "P6.1: what Fall said stands", d.Write(0, full('f')), api.ErrOff)
	if d.Pending() != 4 {
		t.Errorf("P6.4: Pending %d", d.Pending())
	}
}

// TestFall: the power goes at just the n-th, be it a Write or a Flush, and that
// one does nothing.
func TestFall(t *testing.T) {
	for n := 1; n <= 7; n++ {
		for flushes := range 1 << 7 {
			d, m := made(t, 8), newModel(8)
			d.Fall(n)
			m.fall(n)
			for i := range 7 {
				got, want := api.OK, api.OK
				if flushes>>i&1 == 1 {
					got, want = d.Flush(), m.flush()
				} else {
					got, want = d.Write(i, full('a')), m.write(i, full('a'))
				}
				if got != want || (i < n-1) != (got == api.OK) {
					t.Fatalf("P6.1: Fall(%d), flushes %b: call %d: %d, want %d", n, flushes, i, got, want)
				}
			}
			deep(t, "P6.4: behind a fall", d, m)
		}
	}
}

// TestFallCounts: refused calls, reads and the other calls don't count.
func TestFallCounts(t *testing.T) {
	d := made(t, 2)
	d.Fall(3)
	for range 5 {
		wants(t, "P6.1: Write", d.Write(2, full('x')), api.ErrArg)
		wants(t, "P6.1: Write", d.Write(-1, full('x')), api.ErrArg)
		wants(t, "P6.1: Write", d.Write(0, full('x')[1:]), api.ErrArg)
		wants(t, "P6.1: Write", d.Write(0, full('x')+"x"), api.ErrArg)
		d.Read(0)
		d.Read(2)
		d.On()
		d.Copy().Flush()
		d.Pending()
		d.Sectors()
		d.Off()
	}
	lay(t, d, "a0")
	wants(t, "P6.1: Flush", d.Flush(), api.OK)
	wants(t, "P6.1: ErrArg ahead of the fall", d.Write(2, full('x')), api.ErrArg)
	if d.Off() {
		t.Error("P6.4: a refused write took the power")
	}
	wants(t, "P6.1: the third", d.Write(1, full('b')), api.ErrOff)
	d.On()
	holds(t, "P6.4", d, "a\x00")
}

func TestFallTwice(t *testing.T) {
	for _, c := range []struct {
		first, then, calls int // calls: how many are OK; 9: none falls
	}{{1, 3, 2}, {3, 1, 0}, {3, 0, 9}, {1, -1, 9}, {1, math.MinInt, 9}, {0, 2, 1}, {2, 2, 1}, {1, math.MaxInt, 9}} {
		d := made(t, 1)
		d.Fall(c.first)
		d.Fall(c.then)
		count := 0
		for count < 9 && d.Write(0, full('a')) == api.OK {
			count++
		}
		if count != c.calls {
			t.Errorf("P6.1: Fall(%d), Fall(%d): %d writes were OK, want %d", c.first, c.then, count, c.calls)
		}
	}
	d := made(t, 1)
	d.Fall(3)
	lay(t, d, "a0", "b0")
	d.Fall(2)
	lay(t, d, "c0")
	wants(t, "P6.1: counted from the second Fall on", d.Flush(), api.ErrOff)
	d.On()
	lay(t, d, "a0", "b0", "c0", "d0", "e0")
}

// TestFallForgotten: a crash forgets what Fall has said, and so does an On where
// something was open; where nothing was, it stands.
func TestFallForgotten(t *testing.T) {
	open := func() *disk.Disk {
		d := made(t, 1)
		lay(t, d, "a0")
		d.Fall(1)
		wants(t, "P6.1: Flush", d.Flush(), api.ErrOff)
		return d
	}
	bare := func() *disk.Disk {
		d := made(t, 1)
		d.Fall(1)
		wants(t, "P6.1: Write", d.Write(0, full('a')), api.ErrOff)
		return d
	}
	for _, c := range []struct {
		what string
		from func() *disk.Disk
		then func(d *disk.Disk)
		want api.Errno
	}{
		{"a crash", func() *disk.Disk { return made(t, 1) }, func(d *disk.Disk) { d.Fall(1); d.Crash(nil); d.On() }, api.OK},
		{"a crash of a fallen disk", open, func(d *disk.Disk) { d.Fall(1); d.Crash([]int{0}); d.On() }, api.OK},
		{"On of a fallen disk", open, func(d *disk.Disk) { d.Fall(1); d.On() }, api.OK},
		{"On of a fallen disk with nothing pending", bare, func(d *disk.Disk) { d.Fall(1); d.On() }, api.OK},
		{"a crash of a fallen disk with nothing pending", bare, func(d *disk.Disk) { d.Fall(1); d.Crash(nil); d.On() }, api.OK},
		{"said behind the crash", open, func(d *disk.Disk) { d.Crash(nil); d.Fall(1); d.On() }, api.ErrOff},
		{"said behind the crash, and off again", open, func(d *disk.Disk) { d.Crash(nil); d.Fall(1); d.Crash([]int{0}); d.On() }, api.ErrOff},
		{"said behind On", open, func(d *disk.Disk) { d.On(); d.Fall(1) }, api.ErrOff},
		{"said ahead of On, nothing open", func() *disk.Disk { return made(t, 1) }, func(d *disk.Disk) { d.Crash(nil); d.Fall(1); d.On() }, api.ErrOff},
		{"the fall that was", open, func(d *disk.Disk) { d.On() }, api.OK},
		{"taken back while it is off", func() *disk.Disk { return made(t, 1) }, func(d *disk.Disk) { d.Crash(nil); d.Fall(1); d.Fall(0); d.On() }, api.OK},
	} {
		d := c.from()
		c.then(d)
		wants(t, "P6.1: "+c.what, d.Flush(), c.want)
	}
}

// TestFallWhileOff: calls that a disk refuses because it is off don't count.
func TestFallWhileOff(t *testing.T) {
	d := made(t, 1)
	d.Crash(nil)
	d.Fall(2)
	for range 5 {
		wants(t, "P6.1: Write", d.Write(0, full('x')), api.ErrOff)
		wants(t, "P6.1: Flush", d.Flush(), api.ErrOff)
	}
	d.On()
	lay(t, d, "a0")
	wants(t, "P6.1: the second", d.Flush(), api.ErrOff)
	d.On()
	holds(t, "P6.1", d, "\x00")
}

// TestFlushed: what a Flush made safe is there behind every crash, till it is
// written over.
func TestFlushed(t *testing.T) {
	for kept := range 1 << 5 {
		d := made(t, 4)
		lay(t, d, "a0", "b1", "c2", "d3", "e1")
		wants(t, "P6.2: Flush", d.Flush(), api.OK)
		lay(t, d, "x2", "y2", "x3", "z2", "z3")
		var list []int
		for i := range 5 {
			if kept>>i&1 == 1 {
				list = append(list, i)
			}
		}
		d.Crash(list)
		d.On()
		holds(t, "P6.2: not written since", d, "ae")
		d.Crash(list)
		d.On()
		holds(t, "P6.2: behind a second crash", d, "ae")
		want := []byte("cd")
		for _, i := range list {
			want["00101"[i]-'0'] = "xyxzz"[i]
		}
		holds(t, "P6.3", d, "ae"+string(want))
	}
	d := made(t, 2)
	lay(t, d, "a0")
	wants(t, "P6.2: Flush", d.Flush(), api.OK)
	wants(t, "P6.2: Flush of nothing", d.Flush(), api.OK)
	d.Crash([]int{0})
	d.On()
	holds(t, "P6.2", d, "a\x00")
}

// TestTwoCrashes: copies of one disk that keep the same writes are one disk.
func TestTwoCrashes(t *testing.T) {
	d := second(t)
	one, two := d.Copy(), d.Copy()
	one.Crash([]int{0, 1})
	two.Crash([]int{1, 7, 0, 1})
	one.On()
	two.On()
	holds(t, "P6.3: the one", one, "\x00bc\x00")
	holds(t, "P6.3: the other", two, "\x00bc\x00")
	d.Crash([]int{0, 1, 2})
	d.On()
	holds(t, "P6.3: all that was seen", d, "\x00cc\x00")
}

// TestCopies: a copy has all of the state, also what is open and what Fall has
// said, and from then on each goes its own way.
func TestCopies(t *testing.T) {
	d := second(t)
	d.Fall(3)
	c := d.Copy()
	cc := c.Copy()
	lay(t, c, "e0", "f3")
	holds(t, "P6.5: the first", d, "\x00cc\x00")
	holds(t, "P6.5: the copy", c, "eccf")
	wants(t, "P6.5: the copy falls", c.Flush(), api.ErrOff)
	if d.Off() || cc.Off() || d.Pending() != 3 || cc.Pending() != 3 || c.Pending() != 5 {
		t.Error("P6.5: a copy's fall shows in another")
	}
	lay(t, d, "g0")
	lay(t, cc, "h0")
	wants(t, "P6.5: the first", d.Flush(), api.OK)
	holds(t, "P6.5: the first", d, "gcc\x00")
	holds(t, "P6.5: the copy's copy", cc, "hcc\x00")

	fallen := c.Copy()
	if !fallen.Off() || fallen.Pending() != 5 {
		t.Errorf("P6.5: a copy of what is open: Off %v, Pending %d", fallen.Off(), fallen.Pending())
	}
	c.On()
	holds(t, "P6.5: On", c, "\x00a\x00\x00")
	fallen.Crash([]int{3, 0})
	fallen.On()
	holds(t, "P6.5: its own crash", fallen, "eb\x00\x00")
	wants(t, "P6.5: the fall of the copy's copy", cc.Flush(), api.OK)
	wants(t, "P6.5: the fall of the copy's copy", cc.Flush(), api.ErrOff)
	wants(t, "P6.5: the fall of the first", d.Flush(), api.ErrOff)
}

// TestCopiedRoom: writes behind a copy don't meet in spare room of what both
// came from.
func TestCopiedRoom(t *testing.T) {
	for writes := range 20 {
		d := made(t, 2)
		for range writes {
			lay(t, d, "a0")
		}
		c := d.Copy()
		lay(t, d, "b1")
		lay(t, c, "c1")
		d.Crash([]int{writes})
		c.Crash([]int{writes})
		d.On()
		c.On()
		holds(t, "P6.5: the first", d, "\x00b")
		holds(t, "P6.5: the copy", c, "\x00c")
	}
}

// walk makes many calls on disks and their models, some of them copies of
// others, and holds each answer against the model's.
func walk(t *testing.T, seed uint64, steps int) {
	g := &texter{seed}
	size := 1 + g.below(6)
	disks, models := []*disk.Disk{made(t, size)}, []*model{newModel(size)}
	for range steps {
		i := g.below(len(disks))
		d, m := disks[i], models[i]
		got, want := api.OK, api.OK
		switch g.below(16) {
		case 0:
			got, want = d.Flush(), m.flush()
		case 1:
			n := g.around(6)
			d.Fall(n)
			m.fall(n)
		case 2:
			kept := make([]int, g.below(8))
			for i := range kept {
				kept[i] = g.around(len(m.late))
			}
			d.Crash(kept)
			m.crash(kept)
		case 3, 4, 5:
			d.On()
			m.on()
		case 6:
			other, om := d.Copy(), m.copy()
			if at := g.below(4); at < len(disks) {
				disks[at], models[at] = other, om
			} else {
				disks, models = append(disks, other), append(models, om)
			}
		default:
			n, length := g.around(size), 512
			if g.below(8) == 0 {
				length = []int{0, 1, 511, 513, 1024}[g.below(5)]
			}
			text := g.text(length)
			if g.below(2) == 0 { // texts that stood there before
				text = strings.Repeat(string(rune('a'+g.below(3))), length)
			}
			got, want = d.Write(n, text), m.write(n, text)
		}
		if got != want {
			t.Fatalf("P6.1: walk %d: %d, want %d", seed, got, want)
		}
		for i, d := range disks {
			same(t, "P6.1, P6.4, P6.5", d, models[i])
		}
	}
	for i, d := range disks {
		deep(t, "P6.2, P6.3", d, models[i])
	}
}

func TestWalks(t *testing.T) {
	for seed := range 400 {
		walk(t, uint64(seed), 150)
	}
}

// TestBeside: disks that are used beside one another, copies of one of them
// among these, give what they give alone.
func TestBeside(t *testing.T) {
	d := second(t)
	t.Run("all", func(t *testing.T) {
		for i := range 8 {
			c := d.Copy()
			t.Run(strconv.Itoa(i), func(t *testing.T) {
				t.Parallel()
				walk(t, uint64(1000+i), 100)
				letter := "abcdefgh"[i]
				wants(t, "P6.5: beside", c.Write(0, full(letter)), api.OK)
				c.Crash([]int{3, 0})
				c.On()
				holds(t, "P6.5: beside", c, string([]byte{letter, 'b', 0, 0}))
			})
		}
	})
	holds(t, "P6.5: the first", d, "\x00cc\x00")
}

// span is where a text stands.
func span(s string) (from, to uintptr) {
	from = uintptr(unsafe.Pointer(unsafe.StringData(s)))
	return from, from + uintptr(len(s))
}

func apart(a, b string) bool {
	from, to := span(a)
	first, last := span(b)
	return to <= first || last <= from
}

// TestNotKept: a text's bytes that change behind a Write aren't the disk's.
func TestNotKept(t *testing.T) {
	b := []byte(full('a'))
	text := unsafe.String(&b[0], len(b))
	d := made(t, 2)
	wants(t, "P6.1: Write", d.Write(0, text), api.OK)
	b[7] = 'x'
	holds(t, "P6.5: a text that is kept", d, "a\x00")
	wants(t, "P6.1: Flush", d.Flush(), api.OK)
	b[8] = 'x'
	d.Crash(nil)
	d.On()
	holds(t, "P6.5: a text that is kept", d, "a\x00")
}

// TestNewMemory: two answers of Read share nothing, nor do they with what was
// written.
func TestNewMemory(t *testing.T) {
	d := made(t, 3)
	text := full('a')
	wants(t, "P6.1: Write", d.Write(1, text), api.OK)
	answers := []string{text}
	for _, from := range []*disk.Disk{d, d, d.Copy()} {
		for n := range 3 {
			got, _ := from.Read(n)
			for _, other := range answers {
				if !apart(got, other) {
					t.Fatalf("P6.5: an answer of Read(%d) is not new", n)
				}
			}
			answers = append(answers, got)
		}
	}
}

// TestKeptList: the list of a crash is neither changed, spare room too, nor kept.
func TestKeptList(t *testing.T) {
	room := []int{2, 0, 0, 9, -1, 77, 78, 79}
	was := slices.Clone(room)
	d := second(t)
	d.Crash(room[:5])
	if !slices.Equal(room, was) {
		t.Errorf("P6.5: Crash changed its list: %v", room)
	}
	clear(room)
	d.On()
	holds(t, "P6.5: Crash kept its list", d, "\x00c\x00\x00")
}
