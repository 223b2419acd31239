package sum_test

import (
	"hash/crc64"
	"math/bits"
	"strings"
	"sync"
	"testing"

	"coffer/sum"
)

// turn is the chapter's words, step by step, without a table.
func turn(x uint64, b string) uint64 {
	for i := 0; i < len(b); i++ {
		x ^= uint64(b[i])
		for j := 0; j < 8; j++ {
			low := x & 1
			x >>= 1
			if low == 1 {
				x ^= 0xc96c5795d7870f42
			}
		}
	}
	return x
}

func wordsOf(b string) uint64 { return ^turn(0xffffffffffffffff, b) }

func wordsOn(s uint64, b string) uint64 { return ^turn(^s, b) }

// texter tells texts and numbers that look like chance and are the same each time.
type texter struct{ x uint64 }

func (t *texter) number() uint64 {
	t.x += 0x9e3779b97f4a7c15
	z := t.x
	z = (z ^ z>>30) * 0xbf58476d1ce4e5b9
	z = (z ^ z>>27) * 0x94d049bb133111eb
	return z ^ z>>31
}

func (t *texter) text(n int) string {
	b := make([]byte, n)
	for i := range b {
		b[i] = byte(t.number())
	}
	return string(b)
}

func everyByte() string {
	b := make([]byte, 256)
	for i := range b {
		b[i] = byte(i)
	}
	return string(b)
}

// someTexts has ordinary texts, the edges, and bytes that are no UTF-8.
func someTexts() []string {
	l := []string{
		"", "a", "b", "123456789", "hello, world", "\x00", "\x00\x00", "\xff", "\x80", "\xc3\x28", "\xed\xa0\x80", "käse", "日本",
		everyByte(), strings.Repeat("\x00", 512), strings.Repeat("\xff", 512), strings.Repeat("ab", 300),
	}
	t := &texter{1}
	for n := range 70 {
		l = append(l, t.text(n))
	}
	return append(l, t.text(511), t.text(512), t.text(513), t.text(65536))
}

func someNumbers() []uint64 {
	l := []uint64{0, 1, 5, 1<<32 - 1, 1 << 32, 1<<63 - 1, 1 << 63, 1<<64 - 1, 0xc96c5795d7870f42, ^uint64(0xc96c5795d7870f42)}
	for i := range 64 {
		l = append(l, 1<<i)
	}
	t := &texter{2}
	for range 50 {
		l = append(l, t.number())
	}
	return l
}

func TestExamples(t *testing.T) {
	for _, x := range []struct {
		b    string
		want uint64
	}{{"", 0}, {"123456789", 0x995dc9bbdf1939fa}, {"a", 0x330284772e652b05}} {
		if got := sum.Of(x.b); got != x.want {
			t.Errorf("P1.1: Of(%q) = %x, want %x", x.b, got, x.want)
		}
	}
	if got := sum.On(sum.Of("1234"), "56789"); got != 0x995dc9bbdf1939fa {
		t.Errorf("P1.2: On(Of(1234), 56789) = %x", got)
	}
	if got := sum.On(5, ""); got != 5 {
		t.Errorf("P1.1: On(5, \"\") = %x", got)
	}
}

func TestOfAsTheWordsSay(t *testing.T) {
	known := crc64.MakeTable(crc64.ECMA)
	for _, b := range someTexts() {
		got := sum.Of(b)
		if want := wordsOf(b); got != want {
			t.Errorf("P1.1: Of(%d bytes %.40q) = %x, want %x", len(b), b, got, want)
		}
		if want := crc64.Checksum([]byte(b), known); got != want {
			t.Errorf("P1.1: Of(%d bytes %.40q) = %x, CRC-64 is %x", len(b), b, got, want)
		}
	}
}

func TestOfEachOneAndTwoBytes(t *testing.T) {
	for i := range 256 {
		one := string([]byte{byte(i)})
		if got, want := sum.Of(one), wordsOf(one); got != want {
			t.Errorf("P1.1: Of(%q) = %x, want %x", one, got, want)
		}
		for j := range 256 {
			two := string([]byte{byte(i), byte(j)})
			if got, want := sum.Of(two), wordsOf(two); got != want {
				t.Errorf("P1.1: Of(%q) = %x, want %x", two, got, want)
			}
		}
	}
}

func TestOnAsTheWordsSay(t *testing.T) {
	known := crc64.MakeTable(crc64.ECMA)
	texts := someTexts()
	texts = texts[:len(texts)-1] // the longest one at every number would only take time
	for _, s := range someNumbers() {
		if got := sum.On(s, ""); got != s {
			t.Errorf("P1.1: On(%x, \"\") = %x", s, got)
		}
		for _, b := range texts {
			got := sum.On(s, b)
			if want := wordsOn(s, b); got != want {
				t.Errorf("P1.1: On(%x, %.40q) = %x, want %x", s, b, got, want)
			}
			if want := crc64.Update(s, known, []byte(b)); got != want {
				t.Errorf("P1.1: On(%x, %.40q) = %x, CRC-64 is %x", s, b, got, want)
			}
		}
	}
}

func TestOnZeroIsOf(t *testing.T) {
	for _, b := range someTexts() {
		if got, want := sum.On(0, b), sum.Of(b); got != want {
			t.Errorf("P1.1: On(0, %.40q) = %x, Of is %x", b, got, want)
		}
	}
}

func TestLongText(t *testing.T) {
	b := (&texter{3}).text(3 << 20)
	if got, want := sum.Of(b), crc64.Checksum([]byte(b), crc64.MakeTable(crc64.ECMA)); got != want {
		t.Errorf("P1.1: Of(3 MiB) = %x, want %x", got, want)
	}
}

func TestNothingIsKept(t *testing.T) {
	texts := someTexts()
	want := make([]uint64, len(texts))
	for i, b := range texts {
		want[i] = wordsOf(b)
	}
	for i := len(texts) - 1; i >= 0; i-- {
		sum.On(uint64(i), texts[len(texts)-1-i])
		if got := sum.Of(texts[i]); got != want[i] {
			t.Errorf("P1.1: Of(%.40q) behind other calls = %x, want %x", texts[i], got, want[i])
		}
	}
	got := make([]uint64, len(texts))
	var all sync.WaitGroup
	for i, b := range texts {
		all.Go(func() { got[i] = sum.Of(b) })
	}
	all.Wait()
	for i := range texts {
		if got[i] != want[i] {
			t.Errorf("P1.1: Of(%.40q) beside other calls = %x, want %x", texts[i], got[i], want[i])
		}
	}
}

func TestPartsOfEachShortText(t *testing.T) {
	texts := []string{"", "a", "123456789", strings.Repeat("\x00", 20), strings.Repeat("\xff", 20), "日本語", "\xff\x00\x80"}
	tx := &texter{4}
	for n := range 33 {
		texts = append(texts, tx.text(n))
	}
	for _, b := range texts {
		whole := sum.Of(b)
		for i := 0; i <= len(b); i++ {
			first := sum.Of(b[:i])
			if got := sum.On(first, b[i:]); got != whole {
				t.Errorf("P1.2: %q cut at %d: %x, whole %x", b, i, got, whole)
			}
			for j := i; j <= len(b); j++ {
				if got := sum.On(sum.On(first, b[i:j]), b[j:]); got != whole {
					t.Errorf("P1.2: %q cut at %d and %d: %x, whole %x", b, i, j, got, whole)
				}
			}
		}
	}
}

func TestPartsOfLongTexts(t *testing.T) {
	tx := &texter{5}
	for range 200 {
		b := tx.text(int(tx.number() % 5000))
		i := int(tx.number() % uint64(len(b)+1))
		j := i + int(tx.number()%uint64(len(b)-i+1))
		if got, want := sum.On(sum.On(sum.Of(b[:i]), b[i:j]), b[j:]), sum.Of(b); got != want {
			t.Errorf("P1.2: %d bytes cut at %d and %d: %x, whole %x", len(b), i, j, got, want)
		}
	}
}

func laid(a, b string) string {
	c := []byte(a)
	for i := range c {
		c[i] ^= b[i]
	}
	return string(c)
}

func TestThreeLaidOverOneAnother(t *testing.T) {
	tx := &texter{6}
	for n := range 600 {
		a, b, c := tx.text(n), tx.text(n), tx.text(n)
		got := sum.Of(a) ^ sum.Of(b) ^ sum.Of(c)
		if want := sum.Of(laid(laid(a, b), c)); got != want {
			t.Errorf("P1.3: three texts of %d bytes: sums laid over one another %x, sum of the texts so %x", n, got, want)
		}
		if got := sum.Of(a) ^ sum.Of(a) ^ sum.Of(b); got != sum.Of(laid(laid(a, a), b)) {
			t.Errorf("P1.3: a text of %d bytes twice and another: %x", n, got)
		}
	}
}

// rank is how many of the numbers are no others laid over one another.
func rank(l []uint64) int {
	var by [64]uint64
	n := 0
	for _, x := range l {
		for x != 0 {
			top := 63 - bits.LeadingZeros64(x)
			if by[top] == 0 {
				by[top] = x
				n++
				break
			}
			x ^= by[top]
		}
	}
	return n
}

// TestEightBytesInARow tries each of the 64 bits of eight bytes in a row. What any
// other change there makes is what its bits make, laid over one another (the
// promise's other half), so that rank 64 says that none of them makes nothing.
func TestEightBytesInARow(t *testing.T) {
	tx := &texter{7}
	for _, n := range []int{8, 9, 13, 64, 512, 1000} {
		b := tx.text(n)
		before := sum.Of(b)
		for at := 0; at+8 <= n; at++ {
			made := make([]uint64, 64)
			for bit := range made {
				c := []byte(b)
				c[at+bit/8] ^= 1 << (bit % 8)
				made[bit] = before ^ sum.Of(string(c))
			}
			if got := rank(made); got != 64 {
				t.Fatalf("P1.3: %d bytes, changed at %d and behind: rank %d: some change is not told", n, at, got)
			}
		}
	}
}

func TestFewBytesChanged(t *testing.T) {
	tx := &texter{8}
	for range 20000 {
		n := 1 + int(tx.number()%100)
		b := tx.text(n)
		row := 1 + int(tx.number()%uint64(min(8, n)))
		at := int(tx.number() % uint64(n-row+1))
		c := b[:at] + tx.text(row) + b[at+row:]
		if c != b && sum.Of(c) == sum.Of(b) {
			t.Errorf("P1.3: %q and %q have one sum", b, c)
		}
	}
	seen := map[uint64]int{}
	for i := range 1 << 16 {
		s := sum.Of("x" + string([]byte{byte(i), byte(i >> 8)}) + "y")
		if j, ok := seen[s]; ok {
			t.Errorf("P1.3: two bytes %x and %x have one sum", i, j)
		}
		seen[s] = i
	}
}

// TestUnlikeStayUnlike tries each of a sum's 64 bits, and that bits go one by one.
func TestUnlikeStayUnlike(t *testing.T) {
	for _, b := range someTexts() {
		zero := sum.On(0, b)
		made := make([]uint64, 64)
		for bit := range made {
			made[bit] = zero ^ sum.On(1<<bit, b)
		}
		if got := rank(made); got != 64 {
			t.Errorf("P1.4: behind %d bytes %.40q: rank %d: two unlike sums become one", len(b), b, got)
		}
	}
	tx := &texter{9}
	for range 2000 {
		b, x, y := tx.text(int(tx.number()%40)), tx.number(), tx.number()
		if got, want := sum.On(x^y, b), sum.On(x, b)^sum.On(y, b)^sum.On(0, b); got != want {
			t.Errorf("P1.4: On(%x ^ %x, %q) = %x, laid over one another %x", x, y, b, got, want)
		}
	}
}

func TestUnlikePairsStayUnlike(t *testing.T) {
	numbers := someNumbers()
	tx := &texter{10}
	for _, b := range []string{"", "a", "\x00", "\xff", tx.text(8), tx.text(9), tx.text(512)} {
		from := map[uint64]uint64{}
		for _, s := range numbers {
			got := sum.On(s, b)
			if other, ok := from[got]; ok && other != s {
				t.Errorf("P1.4: On(%x, %.40q) and On(%x, ..) are one", s, b, other)
			}
			from[got] = s
		}
	}
}
