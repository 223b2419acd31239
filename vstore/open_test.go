package vstore_test

import (
	"fmt"
	"math"
	"slices"
	"strings"
	"testing"

	"coffer/api"
	"coffer/disk"
	"coffer/log"
	"coffer/vstore"
)

// sectorsOf is all that is seen on a disk.
func sectorsOf(t *testing.T, d *disk.Disk) []string {
	t.Helper()
	var l []string
	for n := range d.Sectors() {
		text, err := d.Read(n)
		wants(t, "Read", err, api.OK)
		l = append(l, text)
	}
	return l
}

// writes lays a sector, safe.
func writes(t *testing.T, d *disk.Disk, n int, text string) {
	t.Helper()
	wants(t, "Write", d.Write(n, text), api.OK)
	wants(t, "Flush", d.Flush(), api.OK)
}

// refuses: Open is refused with this error, and the disk is as it was.
func refuses(t *testing.T, what string, d *disk.Disk, size int, want api.Errno) {
	t.Helper()
	was := sectorsOf(t, d)
	for range 2 {
		if s, err := vstore.Open(d, size); s != nil || err != want {
			t.Fatalf("%s: P16.1: Open: %v, %d, want %d", what, s, err, want)
		}
		if d.Pending() != 0 || !slices.Equal(sectorsOf(t, d), was) {
			t.Fatalf("%s: P16.2: a refused Open has changed the disk", what)
		}
	}
}

// sizes are all small ones, and some out of the ordinary.
func sizes(most int) []int {
	l := []int{math.MinInt, math.MaxInt, math.MaxInt32, 2048, 8192}
	for size := -2; size <= most; size++ {
		l = append(l, size)
	}
	return l
}

// TestSmallest: disks and logs of all small sizes. What log refuses is refused
// so; what is too small else is refused for room, and stays as it was.
func TestSmallest(t *testing.T) {
	opened := map[api.Errno]int{}
	for sectors := 1; sectors <= 26; sectors++ {
		for _, size := range sizes(27) {
			what := fmt.Sprintf("%d sectors, %d of them the log's", sectors, size)
			d := newDisk(t, sectors)
			_, logErr := log.Open(d.Copy(), size)
			_, err := vstore.Open(d.Copy(), size)
			opened[err]++
			switch {
			case err != logErr && (logErr != api.OK || !isRoom(err)):
				t.Fatalf("%s: P16.1: Open: %d, log's Open: %d", what, err, logErr)
			case err != api.OK:
				refuses(t, what, d, size, err)
			default:
				holds(t, what, opens(t, what, d, size), model{})
				holds(t, "P16.4: "+what, opens(t, what, d, size), model{})
				refuses(t, what+", then one more", d, size+1, api.ErrArg)
				walk(t, uint64(sectors), sectors, size, 20)
			}
		}
	}
	for _, err := range []api.Errno{api.OK, api.ErrArg, api.ErrSpace, api.ErrLog} {
		if opened[err] == 0 {
			t.Errorf("no Open answers %d: %v", err, opened)
		}
	}
}

// TestRefusedOpen: a size that is refused takes nothing from one that goes.
func TestRefusedOpen(t *testing.T) {
	d := newDisk(t, 30)
	for _, size := range sizes(40) {
		if _, err := vstore.Open(d.Copy(), size); err != api.OK {
			refuses(t, fmt.Sprint("size ", size), d, size, err)
		}
	}
	s := opens(t, "P16.2: behind all that were refused", d, 12)
	wants(t, "Make", s.Make("a"), api.OK)
}

// TestOffDisk: a disk that is off is refused, whatever the size.
func TestOffDisk(t *testing.T) {
	for _, d := range []*disk.Disk{newDisk(t, 40), func() *disk.Disk { d, _ := laid(t, 40, 20, nil); return d }()} {
		d.Crash(nil)
		for _, size := range sizes(42) {
			if s, err := vstore.Open(d, size); s != nil || err != api.ErrOff {
				t.Fatalf("P16.1: Open of a disk that is off: %v, %d", s, err)
			}
		}
		d.On()
		holds(t, "P16.3: on again", opens(t, "on again", d, 20), model{})
	}
}

// TestFirstBlock: a first block that is neither a store's nor all zeros.
func TestFirstBlock(t *testing.T) {
	const size = 20
	zeros := strings.Repeat("\x00", 512)
	for _, text := range []string{strings.Repeat("x", 512), strings.Repeat("\xff", 512), "coffer" + zeros[6:], zeros[:511] + "\x01", "\x01" + zeros[1:]} {
		d := newDisk(t, 40)
		_, err := log.Open(d, size)
		wants(t, "log.Open", err, api.OK)
		writes(t, d, size, text)
		refuses(t, "a first block of others", d, size, api.ErrTorn)
		blank := newDisk(t, 40)
		writes(t, blank, size, text)
		refuses(t, "a first block of others and no log", blank, size, api.ErrTorn)
	}
	d, _ := laid(t, 40, size, model{"a": of(9, v("k", 7))})
	first := sectorsOf(t, d)[size]
	for at := range 512 {
		for _, turn := range []byte{1, 0x80, 0xff} {
			text := []byte(first)
			text[at] ^= turn
			other := d.Copy()
			writes(t, other, size, string(text))
			refuses(t, fmt.Sprintf("byte %d of the first block turned over", at), other, size, api.ErrTorn)
		}
	}
	torn := d.Copy()
	writes(t, torn, 0, strings.Repeat("x", 512))
	refuses(t, "a log's first sector of others", torn, size, api.ErrTorn)
}

// TestNeverWritten: a log that was laid without a store gets one.
func TestNeverWritten(t *testing.T) {
	d := newDisk(t, 40)
	_, err := log.Open(d, 20)
	wants(t, "log.Open", err, api.OK)
	s := opens(t, "a log without a store", d, 20)
	holds(t, "a log without a store", s, model{})
	wants(t, "Make", s.Make("a"), api.OK)
	small := newDisk(t, 21)
	_, err = log.Open(small, 20)
	wants(t, "log.Open", err, api.OK)
	refuses(t, "a log without a store, too small", small, 20, api.ErrSpace)
}

// tries makes calls of all kinds, of which is asked alone that they end.
func tries(x *texter, d *disk.Disk, size int) api.Errno {
	s, err := vstore.Open(d, size)
	if err != api.OK {
		return err
	}
	m := model{"a": of(9, v("a", 3), v("k", 7)), "b": of(9, v("k", 7))}
	for range 12 {
		x.call(m, slices.Concat(looks, changes), 600).ask(s)
	}
	return api.OK
}

// TestHanging: blocks that hang on the first one, and can't be read. Where what
// stands there instead may be read, all calls end.
func TestHanging(t *testing.T) {
	const size = 60
	x := &texter{9}
	m := model{"a": x.value(40, 600), "b": of(9, v("k", 7)), "c": filled(60, 9000, 3)}
	d, _ := laid(t, 400, size, m)
	was := sectorsOf(t, d)
	junk := []string{strings.Repeat("\x00", 512), strings.Repeat("x", 512), strings.Repeat("\xff", 512), was[size], was[size+1]}
	for _, text := range junk {
		other := d.Copy()
		for n := size + 1; n < d.Sectors(); n++ {
			wants(t, "Write", other.Write(n, text), api.OK)
		}
		wants(t, "Flush", other.Flush(), api.OK)
		refuses(t, "all that hangs on the first block is other", other, size, api.ErrTorn)
	}
	torn := 0
	for n := size + 1; n < d.Sectors(); n++ {
		if was[n] == junk[0] {
			continue
		}
		for _, text := range append(junk, was[size+x.below(300)], x.text(512)) {
			other := d.Copy()
			writes(t, other, n, text)
			switch err := tries(x, other, size); err {
			case api.ErrTorn:
				torn++
			case api.OK:
			default:
				t.Fatalf("P16.1: Open with another block %d: %d", n-size, err)
			}
		}
	}
	if torn == 0 {
		t.Errorf("P16.1: no block matters")
	}
	holds(t, "as it was", opens(t, "as it was", d, size), m)
}

// TestOthersWrote: disks that others wrote to: every call ends, and none panics.
func TestOthersWrote(t *testing.T) {
	const size = 40
	x := &texter{10}
	d, _ := laid(t, 160, size, model{"a": x.value(12, 300), "b": of(9, v("k", 7)), "c": filled(9, 3000, 3)})
	for range 1500 {
		other := d.Copy()
		for range 1 + x.below(3) {
			n := x.below(d.Sectors())
			text, err := other.Read(n)
			wants(t, "Read", err, api.OK)
			turned := []byte(text)
			for range 1 + x.below(3) {
				turned[one(x, x.below(512), x.below(40))] ^= byte(1 << x.below(8))
			}
			writes(t, other, n, string(turned))
		}
		tries(x, other, size)
	}
}
