package hash_test

import (
	"crypto/sha256"
	"encoding/hex"
	"math/big"
	"math/bits"
	"strings"
	"sync"
	"testing"

	"coffer/hash"
)

// texter tells texts and numbers that look like chance and are the same each time.
type texter struct{ x uint64 }

func (t *texter) number() uint64 {
	t.x += 0x9e3779b97f4a7c15
	z := t.x
	z = (z ^ z>>30) * 0xbf58476d1ce4e5b9
	z = (z ^ z>>27) * 0x94d049bb133111eb
	return z ^ z>>31
}

func (t *texter) below(n int) int { return int(t.number() % uint64(n)) }

func (t *texter) text(n int) string {
	b := make([]byte, n)
	for i := range b {
		b[i] = byte(t.number())
	}
	return string(b)
}

func (t *texter) hash() [32]byte { return [32]byte([]byte(t.text(32))) }

func known(b string) [32]byte { return sha256.Sum256([]byte(b)) }

// rootBits is the first 32 bits behind the point of a prime's root: the whole
// part of the root of that prime, 32 times the power's bits higher.
func rootBits(prime int64, power uint) uint32 {
	n := new(big.Int).Lsh(big.NewInt(prime), 32*power)
	low, high := big.NewInt(0), new(big.Int).Lsh(big.NewInt(1), 40)
	for new(big.Int).Sub(high, low).Cmp(big.NewInt(1)) > 0 {
		mid := new(big.Int).Rsh(new(big.Int).Add(low, high), 1)
		if new(big.Int).Exp(mid, big.NewInt(int64(power)), nil).Cmp(n) <= 0 {
			low = mid
		} else {
			high = mid
		}
	}
	return uint32(low.Uint64())
}

func primes(n int) []int64 {
	var l []int64
	for x := int64(2); len(l) < n; x++ {
		if big.NewInt(x).ProbablyPrime(10) {
			l = append(l, x)
		}
	}
	return l
}

// words is the chapter's words, step by step, its numbers made of the primes' roots.
type words struct {
	k     [64]uint32
	first [8]uint32
}

func newWords() *words {
	w := &words{}
	for i, p := range primes(64) {
		w.k[i] = rootBits(p, 3)
	}
	for i, p := range primes(8) {
		w.first[i] = rootBits(p, 2)
	}
	return w
}

func (o *words) sum(text string) [32]byte {
	b := []byte(text + "\x80")
	for len(b)%64 != 56 {
		b = append(b, 0)
	}
	n := 8 * uint64(len(text))
	for by := 56; by >= 0; by -= 8 {
		b = append(b, byte(n>>by))
	}
	now := o.first
	for ; len(b) > 0; b = b[64:] {
		now = o.block(now, b[:64])
	}
	var h [32]byte
	for i := range h {
		h[i] = byte(now[i/4] >> (24 - 8*(i%4)))
	}
	return h
}

func (o *words) block(was [8]uint32, b []byte) [8]uint32 {
	right := func(x uint32, by int) uint32 { return bits.RotateLeft32(x, -by) }
	var w [64]uint32
	for t := range w {
		if t < 16 {
			w[t] = uint32(b[4*t])<<24 + uint32(b[4*t+1])<<16 + uint32(b[4*t+2])<<8 + uint32(b[4*t+3])
			continue
		}
		s0 := right(w[t-15], 7) ^ right(w[t-15], 18) ^ w[t-15]>>3
		s1 := right(w[t-2], 17) ^ right(w[t-2], 19) ^ w[t-2]>>10
		w[t] = s1 + w[t-7] + s0 + w[t-16]
	}
	x := was
	for t := range w {
		a, e := x[0], x[4]
		t1 := x[7] + (right(e, 6) ^ right(e, 11) ^ right(e, 25)) + ((e & x[5]) ^ (^e & x[6])) + o.k[t] + w[t]
		t2 := (right(a, 2) ^ right(a, 13) ^ right(a, 22)) + ((a & x[1]) ^ (a & x[2]) ^ (x[1] & x[2]))
		x = [8]uint32{t1 + t2, x[0], x[1], x[2], x[3] + t1, x[4], x[5], x[6]}
	}
	for i := range x {
		x[i] += was[i]
	}
	return x
}

// someTexts has ordinary texts, bytes that are no UTF-8, and all lengths of up to
// four blocks and those about greater multiples of 64.
func someTexts() []string {
	l := []string{
		"abc", "hello, world", "\x00", "\x80", "\xff", "\xc3\x28", "\xed\xa0\x80", "käse", "日本語",
		"abcdbcdecdefdefgefghfghighijhijkijkljklmklmnlmnomnopnopq",
	}
	t := &texter{1}
	for n := range 260 {
		l = append(l, t.text(n), strings.Repeat("\x00", n), strings.Repeat("\xff", n), strings.Repeat("\x80", n))
	}
	for _, n := range []int{5, 8, 16, 100, 1024} {
		for _, by := range []int{-9, -8, -1, 0, 1, 55, 56} {
			l = append(l, t.text(64*n+by))
		}
	}
	return l
}

func TestExamples(t *testing.T) {
	for _, x := range []struct{ b, want string }{
		{"", "e3b0c44298fc1c149afbf4c8996fb92427ae41e4649b934ca495991b7852b855"},
		{"abc", "ba7816bf8f01cfea414140de5dae2223b00361a396177a9cb410ff61f20015ad"},
		{"abcdbcdecdefdefgefghfghighijhijkijkljklmklmnlmnomnopnopq", "248d6a61d20638b8e5c026930c3e6039a33ce45964ff2167f6ecedd419db06c1"},
		{strings.Repeat("a", 1000000), "cdc76e5c9914fb9281a1c7e284d73e67f1809a48a497200e046d39ccc7112cd0"},
	} {
		if got := hash.Hex(hash.Sum(x.b)); got != x.want {
			t.Errorf("P2.1: Sum(%d bytes %.20q) = %s, want %s", len(x.b), x.b, got, x.want)
		}
	}
	w := hash.New()
	for _, x := range []struct{ piece, whole string }{{"a", "a"}, {"", "a"}, {"bc", "abc"}, {"d", "abcd"}} {
		w.Write(x.piece)
		if got, want := w.Sum(), known(x.whole); got != want {
			t.Errorf("P2.2: behind the piece %q: %x, Sum(%q) is %x", x.piece, got, x.whole, want)
		}
	}
}

func TestSumAsTheWordsSay(t *testing.T) {
	o := newWords()
	if o.k[0] != 0x428a2f98 || o.k[63] != 0xc67178f2 || o.first[0] != 0x6a09e667 || o.first[7] != 0x5be0cd19 {
		t.Fatalf("the test's own roots are wrong: %x %x", o.k, o.first)
	}
	for _, b := range someTexts() {
		got := hash.Sum(b)
		if want := o.sum(b); got != want {
			t.Errorf("P2.1: Sum(%d bytes %.20q) = %x, want %x", len(b), b, got, want)
		}
		if want := known(b); got != want {
			t.Errorf("P2.1: Sum(%d bytes %.20q) = %x, SHA-256 is %x", len(b), b, got, want)
		}
	}
}

func TestEachShortTextAndBit(t *testing.T) {
	for i := range 1 << 16 {
		two := string([]byte{byte(i), byte(i >> 8)})
		if got, want := hash.Sum(two), known(two); got != want {
			t.Fatalf("P2.1: Sum(%q) = %x, SHA-256 is %x", two, got, want)
		}
	}
	for _, n := range []int{55, 64, 119, 128} {
		for bit := range 8 * n {
			b := make([]byte, n)
			b[bit/8] = 1 << (bit % 8)
			if got, want := hash.Sum(string(b)), known(string(b)); got != want {
				t.Errorf("P2.1: Sum(%d bytes, bit %d alone) = %x, SHA-256 is %x", n, bit, got, want)
			}
		}
	}
}

// TestLongText goes past the lengths whose bits 16 and 32 bits can count.
func TestLongText(t *testing.T) {
	b := (&texter{2}).text(1 << 20)
	for _, n := range []int{8191, 8192, 8193, 65535, 65536, 65537, 1<<20 - 1, 1 << 20} {
		if got, want := hash.Sum(b[:n]), known(b[:n]); got != want {
			t.Errorf("P2.1: Sum(%d bytes) = %x, SHA-256 is %x", n, got, want)
		}
	}
	w, o, piece := hash.New(), sha256.New(), []byte(b)
	for range 513 {
		w.Write(b)
		o.Write(piece)
	}
	if got, want := w.Sum(), [32]byte(o.Sum(nil)); got != want {
		t.Errorf("P2.2: 513 pieces of 1 MiB: %x, SHA-256 is %x", got, want)
	}
}

func TestNothingGivenIsTheEmptyText(t *testing.T) {
	w := hash.New()
	for range 3 {
		if got, want := w.Sum(), known(""); got != want {
			t.Errorf("P2.2: a writer that was given nothing: %x, want %x", got, want)
		}
		w.Write("")
	}
}

// told writes the pieces one by one, and holds each Sum against the text so far.
func told(t *testing.T, what string, pieces ...string) {
	t.Helper()
	w, so := hash.New(), ""
	for i, p := range pieces {
		w.Write(p)
		so += p
		if got, want := w.Sum(), known(so); got != want {
			t.Fatalf("P2.2: %s: behind piece %d: %x, of the %d bytes so far %x", what, i, got, len(so), want)
		}
		if got := w.Sum(); got != known(so) {
			t.Fatalf("P2.2: %s: behind piece %d: Sum asked again is %x", what, i, got)
		}
	}
}

// toldLast writes the pieces and asks at the end alone.
func toldLast(t *testing.T, what string, pieces ...string) {
	t.Helper()
	w := hash.New()
	for _, p := range pieces {
		w.Write(p)
	}
	if got, want := w.Sum(), hash.Sum(strings.Join(pieces, "")); got != want {
		t.Fatalf("P2.2: %s: asked at the end: %x, Sum is %x", what, got, want)
	}
}

func TestEachCutInTwoAndThree(t *testing.T) {
	tx := &texter{3}
	for _, n := range []int{0, 1, 2, 3, 55, 56, 57, 63, 64, 65, 119, 120, 127, 128, 129} {
		b := tx.text(n)
		for i := range n + 1 {
			told(t, "cut in two", b[:i], b[i:])
			toldLast(t, "cut in two", b[:i], b[i:])
			for j := i; j <= n; j++ {
				toldLast(t, "cut in three", b[:i], b[i:j], b[j:])
			}
		}
	}
	b := tx.text(200)
	for _, i := range []int{0, 1, 55, 56, 63, 64, 65, 127, 128, 129, 200} {
		for j := i; j <= len(b); j++ {
			told(t, "cut in three with empty ones", "", b[:i], "", b[i:j], "", b[j:], "")
		}
	}
}

func TestPiecesOfOneLength(t *testing.T) {
	b := (&texter{4}).text(700)
	for n := 1; n <= len(b); n++ {
		var pieces []string
		for at := 0; at < len(b); at += n {
			pieces = append(pieces, b[at:min(at+n, len(b))])
		}
		told(t, "pieces of one length", pieces...)
		toldLast(t, "pieces of one length", pieces...)
	}
}

func TestPiecesOfAllLengths(t *testing.T) {
	tx := &texter{5}
	for range 300 {
		var pieces []string
		for range 1 + tx.below(12) {
			most := []int{1, 4, 64, 66, 130, 1000}[tx.below(6)]
			pieces = append(pieces, tx.text(tx.below(most)))
		}
		told(t, "pieces of all lengths", pieces...)
		toldLast(t, "pieces of all lengths", pieces...)
	}
}

func TestWhatSumToldStays(t *testing.T) {
	w := hash.New()
	w.Write("abc")
	h := w.Sum()
	w.Write("d")
	if h != known("abc") {
		t.Errorf("P2.2: what Sum told was changed by a later piece: %x", h)
	}
	h[0]++
	if got := w.Sum(); got != known("abcd") {
		t.Errorf("P2.2: Sum hangs on what was done with its answer: %x", got)
	}
}

func TestWritersInTurns(t *testing.T) {
	tx := &texter{6}
	var writers [5]*hash.Writer
	var so [5]string
	for i := range writers {
		writers[i] = hash.New()
	}
	for range 2000 {
		i := tx.below(len(writers))
		p := tx.text(tx.below(90))
		writers[i].Write(p)
		so[i] += p
		hash.Sum(p)
		for j, w := range writers {
			if tx.below(10) == 0 && w.Sum() != known(so[j]) {
				t.Fatalf("P2.3: writer %d, behind a piece to writer %d, tells another hash", j, i)
			}
		}
	}
	for j, w := range writers {
		if got, want := w.Sum(), known(so[j]); got != want {
			t.Errorf("P2.3: writer %d of %d in turns: %x, want %x", j, len(writers), got, want)
		}
	}
	if got := hash.New().Sum(); got != known("") {
		t.Errorf("P2.3: a new writer behind others: %x", got)
	}
}

func TestWritersBesideOneAnother(t *testing.T) {
	texts := someTexts()
	var got, whole = make([][32]byte, len(texts)), make([][32]byte, len(texts))
	var all sync.WaitGroup
	for i, b := range texts {
		all.Go(func() {
			w := hash.New()
			w.Write(b[:len(b)/2])
			w.Write(b[len(b)/2:])
			got[i], whole[i] = w.Sum(), hash.Sum(b)
		})
	}
	all.Wait()
	for i, b := range texts {
		if got[i] != known(b) || whole[i] != known(b) {
			t.Errorf("P2.3: %d bytes %.20q, hashed beside others: %x, %x", len(b), b, got[i], whole[i])
		}
	}
}

func TestHexOfEachByte(t *testing.T) {
	for at := range 32 {
		for x := range 256 {
			var h [32]byte
			h[at] = byte(x)
			s := hash.Hex(h)
			if want := hex.EncodeToString(h[:]); s != want {
				t.Fatalf("P2.1: Hex(%x) = %q, want %q", h, s, want)
			}
			if back, ok := hash.Parse(s); back != h || !ok {
				t.Fatalf("P2.3: Parse(Hex(%x)) = %x, %v", h, back, ok)
			}
		}
	}
}

func TestHexAndParseThereAndBack(t *testing.T) {
	tx := &texter{7}
	for range 5000 {
		h := tx.hash()
		s := hash.Hex(h)
		if s != hex.EncodeToString(h[:]) {
			t.Fatalf("P2.1: Hex(%x) = %q", h, s)
		}
		if back, ok := hash.Parse(s); back != h || !ok {
			t.Fatalf("P2.3: Parse(Hex(%x)) = %x, %v", h, back, ok)
		}
	}
	const digits = "0123456789abcdef"
	for range 5000 {
		b := make([]byte, 64)
		for i := range b {
			b[i] = digits[tx.below(16)]
		}
		h, ok := hash.Parse(string(b))
		if !ok || hash.Hex(h) != string(b) {
			t.Fatalf("P2.3: Hex(Parse(%q)) = %q, %v", b, hash.Hex(h), ok)
		}
	}
}

// refused holds that the text is no hash's digits, and that nothing is told of it.
func refused(t *testing.T, s string) {
	t.Helper()
	if h, ok := hash.Parse(s); ok || h != ([32]byte{}) {
		t.Errorf("P2.1: Parse(%q) = %x, %v: it is no hash", s, h, ok)
	}
}

func TestParseOfEachByteAtEachPlace(t *testing.T) {
	s := hash.Hex((&texter{8}).hash())
	for at := range 64 {
		for x := range 256 {
			c := s[:at] + string([]byte{byte(x)}) + s[at+1:]
			if !strings.Contains("0123456789abcdef", string([]byte{byte(x)})) {
				refused(t, c)
				continue
			}
			h, ok := hash.Parse(c)
			if want, err := hex.DecodeString(c); err != nil || !ok || h != [32]byte(want) {
				t.Errorf("P2.1: Parse(%q) = %x, %v", c, h, ok)
			}
		}
	}
}

func TestParseOfWrongTexts(t *testing.T) {
	s := strings.Repeat("0123456789abcdef", 20)
	for n := range len(s) + 1 {
		if n != 64 {
			refused(t, s[:n])
		}
	}
	h := hash.Hex((&texter{9}).hash())
	for _, b := range []string{
		strings.ToUpper(h), h[:63] + "A", "g" + h[1:], " " + h[:63], h[1:] + "\n", h[:62] + "ä", "0x" + h[:62], "+" + h[1:], "-" + h[1:],
		" " + h, h + " ", "\x00" + h, h + "\x00", h + h, h[:32] + "_" + h[33:], strings.Repeat("\x00", 64), strings.Repeat("\xff", 64),
		strings.Repeat("０", 64), strings.Repeat("ä", 32), strings.Repeat("A", 64), strings.Repeat("z", 64), strings.Repeat("0", 1<<20),
	} {
		refused(t, b)
	}
}
