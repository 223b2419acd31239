package pax_test

import (
	"math"
	"strconv"
	"strings"
	"sync"
	"testing"
	"unsafe"

	"coffer/api"
	"coffer/pax"
)

// texter tells texts and numbers that look like chance and are the same each time.
type texter struct{ x uint64 }

func (t *texter) number() uint64 {
	t.x += 0x9e3779b97f4a7c15
	z := t.x
	z = (z ^ z>>30) * 0xbf58476d1ce4e5b9
	z = (z ^ z>>27) * 0x94d049bb133111eb
	return z ^ z>>31
}

func (t *texter) below(n int) int { return int(t.number() % uint64(n)) }

// text has n bytes of all kinds; those that mean something in a record come often.
func (t *texter) text(n int) string {
	const often = "= \n0123456789k"
	b := make([]byte, n)
	for i := range b {
		if t.below(2) == 0 {
			b[i] = often[t.below(len(often))]
		} else {
			b[i] = byte(t.number())
		}
	}
	return string(b)
}

// key has n bytes, at least one.
func (t *texter) key(n int) string {
	return strings.NewReplacer("=", "~", "\n", "\r").Replace(t.text(n))
}

// fits tells whether a number is the length of a record with n other bytes.
func fits(n, number int) bool { return n+len(strconv.Itoa(number)) == number }

// lengthOf is the least number that fits, by the chapter's first words of LEN:
// no digits are counted up, numbers are.
func lengthOf(n int) int {
	for number := n; ; number++ {
		if fits(n, number) {
			return number
		}
	}
}

// recordOf is the record of a key and a value, however long.
func recordOf(key, value string) string {
	return strconv.Itoa(lengthOf(len(key)+len(value)+3)) + " " + key + "=" + value + "\n"
}

// valueFor is a value with which a record of that key has n other bytes than its digits.
func valueFor(key string, n int) string { return strings.Repeat("v", n-3-len(key)) }

func wantWrite(t *testing.T, promise, key, value, want string, err api.Errno) {
	t.Helper()
	if got, e := pax.Write(key, value); got != want || e != err {
		t.Errorf("%s: Write(%.40q, %d bytes) = %.40q (%d bytes), %d, want %.40q (%d bytes), %d", promise, key, len(value), got, len(got), e, want, len(want), err)
	}
}

func wantRead(t *testing.T, promise, b string, at int, key, value string, next int, err api.Errno) {
	t.Helper()
	if k, v, n, e := pax.Read(b, at); k != key || v != value || n != next || e != err {
		t.Errorf("%s: Read(%.40q (%d bytes), %d) = %.40q, %.40q (%d bytes), %d, %d, want %.40q, %.40q (%d bytes), %d, %d", promise, b, len(b), at, k, v, len(v), n, e, key, value, len(value), next, err)
	}
}

func wantNone(t *testing.T, promise, b string, at int) {
	t.Helper()
	wantRead(t, promise, b, at, "", "", 0, api.ErrForm)
}

func TestWriteExamples(t *testing.T) {
	v93 := strings.Repeat("v", 93)
	for _, x := range []struct{ key, value, want string }{
		{"a", "b", "6 a=b\n"},
		{"size", "5", "9 size=5\n"},
		{"sizes", "5", "11 sizes=5\n"},
		{"k", "", "5 k=\n"},
		{"k", v93, "99 k=" + v93 + "\n"},
		{"k", v93 + "v", "101 k=" + v93 + "v\n"},
		{" ", "=\n", "7  ==\n\n"},
		{"5", "6 a=b\n", "12 5=6 a=b\n\n"},
		{"\x00", "\x00", "6 \x00=\x00\n"},
		{"\xff\xfe", "\xff", "7 \xff\xfe=\xff\n"},
		{"ä", "€", "9 ä=€\n"},
		{"\r", "\r\n", "7 \r=\r\n\n"},
	} {
		wantWrite(t, "P4.1", x.key, x.value, x.want, api.OK)
	}
}

func TestWriteNoKey(t *testing.T) {
	great := strings.Repeat("v", api.MaxArchive)
	keys := []string{"", "=", "\n", "a=", "=a", "a=b", "a\n", "\na", "a\nb", "==", "\n\n", "=\n", great + "=", great + "\n", "\xff=", "ä\nö"}
	for _, key := range keys {
		// The key is asked for ahead of the length.
		for _, value := range []string{"", "x", "=", great} {
			wantWrite(t, "P4.1", key, value, "", api.ErrArg)
		}
	}
}

// TestWriteEveryByte: just two bytes are in no key, at no place of it; all are in values.
func TestWriteEveryByte(t *testing.T) {
	for c := range 256 {
		one := string([]byte{byte(c)})
		for _, key := range []string{one, one + "k", "k" + one, "k" + one + "k", strings.Repeat("k", 40) + one} {
			if c == 10 || c == 61 {
				wantWrite(t, "P4.1", key, "v", "", api.ErrArg)
				continue
			}
			record := recordOf(key, one)
			wantWrite(t, "P4.1", key, one, record, api.OK)
			wantRead(t, "P4.2", record, 0, key, one, len(record), api.OK)
		}
		record := recordOf("k", one+"v"+one)
		wantWrite(t, "P4.1", "k", one+"v"+one, record, api.OK)
		wantRead(t, "P4.2", record, 0, "k", one+"v"+one, len(record), api.OK)
	}
}

// lengths are how many other bytes than digits the tests' records have: all of
// few, and those where the digits become more.
func lengths() []int {
	var l []int
	for n := 4; n < 1300; n++ {
		l = append(l, n)
	}
	for _, middle := range []int{10000, 100000, 1000000, api.MaxArchive - 8} {
		for n := middle - 15; n < middle+5; n++ {
			l = append(l, n)
		}
	}
	return l
}

func TestLengths(t *testing.T) {
	for _, n := range lengths() {
		for _, key := range []string{"k", "key", strings.Repeat("k", n-3)} {
			if n-3 < len(key) {
				continue
			}
			value := valueFor(key, n)
			record := recordOf(key, value)
			if len(record) > api.MaxArchive {
				wantWrite(t, "P4.1", key, value, "", api.ErrLong)
				wantNone(t, "P4.1", record, 0)
				continue
			}
			wantWrite(t, "P4.1", key, value, record, api.OK)
			wantRead(t, "P4.2", record, 0, key, value, len(record), api.OK)
		}
	}
}

// TestCountsItself asks the digits of what Write tells, and no other reckoning.
func TestCountsItself(t *testing.T) {
	for _, n := range lengths() {
		record, err := pax.Write("k", valueFor("k", n))
		if err != api.OK {
			if lengthOf(n) <= api.MaxArchive {
				t.Errorf("P4.4: Write with n = %d: %d", n, err)
			}
			continue
		}
		digits, _, _ := strings.Cut(record, " ")
		number, wrong := strconv.Atoi(digits)
		if wrong != nil || number != len(record) || strconv.Itoa(number) != digits || len(record) != n+len(digits) {
			t.Errorf("P4.4: with n = %d the digits are %q, the length %d", n, digits, len(record))
		}
		for fewer := 1; fewer < len(digits); fewer++ {
			if len(strconv.Itoa(n+fewer)) == fewer {
				t.Errorf("P4.4: with n = %d the digits are %q, and %d would fit", n, digits, n+fewer)
			}
		}
	}
}

// TestOtherLengths: where a second number fits, it makes no record; nor does
// any number near the right one.
func TestOtherLengths(t *testing.T) {
	twice := 0
	for _, n := range lengths() {
		value := valueFor("k", n)
		right := lengthOf(n)
		for number := max(right-12, 0); number < right+12; number++ {
			b := strconv.Itoa(number) + " k=" + value + "\n"
			if number == right {
				continue
			}
			if fits(n, number) {
				twice++
				if number != len(b) {
					t.Fatalf("the test's own number %d fits %d bytes", number, len(b))
				}
			}
			wantNone(t, "P4.3", b, 0)
			// There are bytes enough behind it.
			wantNone(t, "P4.3", b+strings.Repeat("v", 30), 0)
		}
	}
	// 8, 97, 996, 9995, 99994 and 999993.
	if twice != 6 {
		t.Errorf("P4.3: second numbers that fit: %d, want 6", twice)
	}
}

func TestGreatest(t *testing.T) {
	for _, key := range []string{"k", "key", strings.Repeat("k", 1000), strings.Repeat("k", api.MaxArchive-10)} {
		value := valueFor(key, api.MaxArchive-7)
		record := "1048576 " + key + "=" + value + "\n"
		if len(record) != api.MaxArchive {
			t.Fatalf("the test's own record has %d bytes", len(record))
		}
		wantWrite(t, "P4.1", key, value, record, api.OK)
		wantRead(t, "P4.2", "6 a=b\n"+record+"6 a=b\n", 6, key, value, 6+api.MaxArchive, api.OK)
		wantNone(t, "P4.2", record[:len(record)-1], 0)
		wantWrite(t, "P4.1", key, value+"v", "", api.ErrLong)
		wantWrite(t, "P4.1", key+"k", value, "", api.ErrLong)
		wantNone(t, "P4.1", "1048577 "+key+"="+value+"v\n", 0)
		wantNone(t, "P4.1", "1048576 "+key+"="+value+"v\n", 0)
	}
	great := strings.Repeat("v", 8*api.MaxArchive)
	wantWrite(t, "P4.1", "k", great, "", api.ErrLong)
	wantWrite(t, "P4.1", great, "", "", api.ErrLong)
	wantWrite(t, "P4.1", great, great, "", api.ErrLong)
	wantNone(t, "P4.1", recordOf("k", great), 0)
	wantNone(t, "P4.1", recordOf("k", great[:3*api.MaxArchive]), 0)
}

func TestReadPlaces(t *testing.T) {
	for _, b := range []string{"", "x", "6 a=b\n", "x6 a=b\n", strings.Repeat("6 a=b\n", 9)} {
		for _, at := range []int{-1, -2, -6, len(b) + 1, len(b) + 2, len(b) + 6, math.MinInt, math.MinInt + 1, math.MaxInt, math.MaxInt - 1, 1 << 31, -1 << 31, 1 << 32} {
			wantRead(t, "P4.1", b, at, "", "", 0, api.ErrArg)
		}
		wantRead(t, "P4.1", b, len(b), "", "", 0, api.ErrNone)
	}
	b := "x6 a=b\n"
	wantNone(t, "P4.1", b, 0)
	wantRead(t, "P4.1", b, 1, "a", "b", 7, api.OK)
	for at := 2; at < 7; at++ {
		wantNone(t, "P4.1", b, at)
	}
}

// TestReadWithin: a record may begin within another's digits, or within its value.
func TestReadWithin(t *testing.T) {
	inner := "6 a=b\n"
	outer, err := pax.Write("k", inner)
	if outer != "12 k=6 a=b\n\n" || err != api.OK {
		t.Fatalf("P4.1: Write = %q, %d", outer, err)
	}
	wantRead(t, "P4.1", outer, 0, "k", inner, 12, api.OK)
	wantRead(t, "P4.1", outer, 5, "a", "b", 11, api.OK)
	wantNone(t, "P4.1", outer, 1)
	// "16 a=b" is no record; from its second digit on it is.
	wantNone(t, "P4.1", "16 a=b\n", 0)
	wantRead(t, "P4.1", "16 a=b\n", 1, "a", "b", 7, api.OK)
	// Two numbers fit: the lesser one's text is the record.
	v := strings.Repeat("v", 93)
	wantRead(t, "P4.1", "99 k="+v+"\n", 0, "k", v, 99, api.OK)
	wantNone(t, "P4.3", "100 k="+v+"\n", 0)
	wantRead(t, "P4.1", "9 k=vvvv\n", 0, "k", "vvvv", 9, api.OK)
	wantNone(t, "P4.3", "10 k=vvvv\n", 0)
}

func TestReadNoRecord(t *testing.T) {
	for _, b := range []string{
		"06 a=b\n", "006 a=b\n", "07 a=b\n", "+6 a=b\n", "-6 a=b\n", "+7 a=b\n", "-7 a=b\n", "7 +a=b", "6. a=b\n",
		"0x6 a=b\n", "6e0 a=b\n", "6_ a=b\n", "1_1 k=vvvv\n", " 6 a=b\n", "  6 a=b\n", "6  a=b\n", "7 6 a=b\n",
		"\n6 a=b\n", "6\ta=b\n", "6\na=b\n", "6\x00a=b\n", "6a=b\n", "5a=b\n", "6 a=bc", "6 a=bc\n", "6 abc\n", "6 =ab\n",
		"6 a\n=\n", "6 \n=b\n", "7 a\n=b\n", "7 a=b\n", "8 a=b\n\n", "5 a=b\n", "4 a=b\n", "0 a=b\n", "0", "00", "1", "1 ", "1\n",
		"2 ", "2\n", "2 \n", "3 \n\n", "3 =\n", "4 =\n", "4 =\n\n", "4 k\n", "4 k=\n", "5 k=", "6", "6 ", "6 a", "6 a=", "6 a=b", "6 a=b\r",
		"5 =v\n", "5 ==\n", "6 ==\n", "5 kk\n", " ", "=", "\n", "x", "-", "+", "a=b\n", " a=b\n", "\xff6 a=b\n", "６ a=b\n", "٦ a=b\n", "6\u00a0a=b\n",
		"4294967302 a=b\n", "18446744073709551622 a=b\n", "9223372036854775807 a=b\n", "9223372036854775808 a=b\n",
		"99999999999999999999 a=b\n", "340282366920938463463374607431768211462 a=b\n",
		"10000000 a=b\n", "9999999 a=b\n", "1048576 a=b\n", "1048577 a=b\n", strings.Repeat("9", 300) + " a=b\n", strings.Repeat("0", 300) + "6 a=b\n",
	} {
		wantNone(t, "P4.1", b, 0)
		wantNone(t, "P4.1", "6 a=b\n"+b, 6)
	}
}

// TestNoDigits: bytes that are no digits count for none, though the length that
// one would reckon from them be right.
func TestNoDigits(t *testing.T) {
	for _, head := range []string{"", "1", "9", "10", "42", "100"} {
		for c := range 256 {
			if c >= '0' && c <= '9' {
				continue
			}
			for _, tail := range []string{"", "0", "7", "77"} {
				digits := head + string([]byte{byte(c)}) + tail
				asInt, asByte := 0, 0
				for _, d := range []byte(digits) {
					asInt = asInt*10 + int(d) - '0'
					asByte = asByte*10 + int(d-'0')
				}
				for _, size := range []int{asInt, asByte} {
					if size >= len(digits)+5 {
						wantNone(t, "P4.1", digits+" k="+strings.Repeat("v", size-len(digits)-4)+"\n", 0)
					}
				}
			}
		}
	}
}

// TestDigitsAlone: a text of digits alone is given up early, so that reading at
// each place of it is no more than a walk.
func TestDigitsAlone(t *testing.T) {
	for _, digit := range []string{"0", "1", "9"} {
		b := strings.Repeat(digit, 200000)
		for at := range len(b) {
			if k, v, n, err := pax.Read(b, at); k != "" || v != "" || n != 0 || err != api.ErrForm {
				t.Fatalf("P4.1: Read(digits %s, %d) = %q, %q, %d, %d", digit, at, k, v, n, err)
			}
		}
	}
}

// records are all that have at most most bytes, of keys and values with these
// bytes, each with its key and value.
func records(bytes string, most int) map[string][2]string {
	all := map[string][2]string{}
	texts := []string{""}
	for i := 0; i < len(texts); i++ {
		if len(texts[i]) < most-4 {
			for _, c := range bytes {
				texts = append(texts, texts[i]+string(c))
			}
		}
	}
	for _, key := range texts {
		for _, value := range texts {
			if key == "" || strings.ContainsAny(key, "=\n") || len(key)+len(value) > most-4 {
				continue
			}
			if r := recordOf(key, value); len(r) <= most {
				all[r] = [2]string{key, value}
			}
		}
	}
	return all
}

// TestEveryShortText reads all texts of few bytes: just those that begin with a
// record are read.
func TestEveryShortText(t *testing.T) {
	const bytes, most = "0567 =\nk", 7
	all := records(bytes, most)
	b := make([]byte, most)
	places := make([]int, most)
	read := 0
	for {
		for i, p := range places {
			b[i] = bytes[p]
		}
		text := string(b)
		key, value, next, want := "", "", 0, api.ErrForm
		for n := 1; n <= most; n++ {
			if kv, is := all[text[:n]]; is {
				if want == api.OK {
					t.Fatalf("P4.3: %q begins with two records", text)
				}
				key, value, next, want = kv[0], kv[1], n, api.OK
				read++
			}
		}
		wantRead(t, "P4.1", text, 0, key, value, next, want)
		i := 0
		for ; i < most; i++ {
			if places[i]++; places[i] < len(bytes) {
				break
			}
			places[i] = 0
		}
		if i == most {
			break
		}
	}
	// Of 6 bytes for keys and 8 for values: 5 bytes (6 keys), 6 (36 and 48) and 7
	// (216, 288 and 384), the first with two bytes behind, the second with one.
	if want := 6*64 + (36+48)*8 + (216 + 288 + 384); read != want {
		t.Errorf("P4.1: %d texts begin with a record, want %d", read, want)
	}
}

func TestThereAndBack(t *testing.T) {
	x := &texter{4}
	for range 4000 {
		key, value := x.key(1+x.below(20)), x.text(x.below(300))
		record, err := pax.Write(key, value)
		if record != recordOf(key, value) || err != api.OK {
			t.Fatalf("P4.1: Write(%q, %q) = %q, %d", key, value, record, err)
		}
		ahead, behind := x.text(x.below(30)), x.text(x.below(30))
		wantRead(t, "P4.2", record, 0, key, value, len(record), api.OK)
		wantRead(t, "P4.2", ahead+record, len(ahead), key, value, len(ahead)+len(record), api.OK)
		wantRead(t, "P4.2", record+behind, 0, key, value, len(record), api.OK)
		wantRead(t, "P4.2", ahead+record+behind, len(ahead), key, value, len(ahead)+len(record), api.OK)
	}
}

func TestCutShort(t *testing.T) {
	x := &texter{5}
	for round := range 300 {
		key, value := x.key(1+x.below(20)), x.text(x.below(300))
		if round%3 == 0 {
			// Ends that would do for a shorter record, if its number were less.
			value = strings.Repeat("\n", round)
		}
		record := recordOf(key, value)
		ahead := x.text(x.below(9))
		for n := 1; n < len(record); n++ {
			wantNone(t, "P4.2", record[:n], 0)
			wantNone(t, "P4.2", ahead+record[:n], len(ahead))
		}
		wantRead(t, "P4.2", ahead, len(ahead), "", "", 0, api.ErrNone)
	}
	for _, n := range []int{9990, 99990, 999990} {
		record := recordOf("k", strings.Repeat("\n", n))
		for cut := 1; cut < 40; cut++ {
			wantNone(t, "P4.2", record[:len(record)-cut], 0)
			wantNone(t, "P4.2", record[:cut], 0)
		}
	}
}

// oneForm asks that what is read of a text, if anything is, is written as just
// the bytes that were read, and tells whether it was read.
func oneForm(t *testing.T, b string, at int) bool {
	t.Helper()
	key, value, next, err := pax.Read(b, at)
	if err != api.OK {
		if key != "" || value != "" || next != 0 || err != api.ErrForm {
			t.Errorf("P4.1: Read(%.40q, %d) = %.40q, %.40q, %d, %d", b, at, key, value, next, err)
		}
		return false
	}
	if next <= at || next > len(b) {
		t.Errorf("P4.3: Read(%.40q, %d) ends at %d", b, at, next)
		return true
	}
	wantWrite(t, "P4.3", key, value, b[at:next], api.OK)
	if b[at:next] != recordOf(key, value) {
		t.Errorf("P4.3: Read(%.40q, %d) took %.40q for the record of %.40q and %.40q", b, at, b[at:next], key, value)
	}
	return true
}

// TestOneForm reads records of which a byte is another, is left out or is put
// in, and those that begin at each of their places.
func TestOneForm(t *testing.T) {
	x := &texter{6}
	const marks = "0123456789 =\nk+-\x00\xff"
	read, refused := 0, 0
	count := func(was bool) {
		if was {
			read++
		} else {
			refused++
		}
	}
	for round := range 120 {
		record := recordOf(x.key(1+x.below(6)), x.text(x.below(12)))
		if round%4 == 0 {
			record = recordOf(x.key(1+x.below(6)), x.text(80+x.below(30)))
		}
		behind := strings.Repeat("\n", x.below(4))
		for i := range len(record) {
			for _, c := range []byte(marks) {
				count(oneForm(t, record[:i]+string([]byte{c})+record[i+1:]+behind, 0))
				count(oneForm(t, record[:i]+string([]byte{c})+record[i:]+behind, 0))
			}
			count(oneForm(t, record[:i]+record[i+1:]+behind, 0))
			count(oneForm(t, record+behind, i))
		}
	}
	if read < 1000 || refused < 1000 {
		t.Errorf("P4.3: the test's own texts: %d were read, %d refused", read, refused)
	}
}

// TestWalk reads a text that is made of records, one behind the other.
func TestWalk(t *testing.T) {
	x := &texter{7}
	var keys, values []string
	var ends []int
	b := ""
	for range 300 {
		key, value := x.key(1+x.below(12)), x.text(x.below(120))
		b += recordOf(key, value)
		keys, values, ends = append(keys, key), append(values, value), append(ends, len(b))
	}
	at := 0
	for i := range keys {
		wantRead(t, "P4.2", b, at, keys[i], values[i], ends[i], api.OK)
		at = ends[i]
	}
	wantRead(t, "P4.1", b, at, "", "", 0, api.ErrNone)
}

// span is where the bytes of a text lie.
func span(text string) (uintptr, uintptr) {
	from := uintptr(unsafe.Pointer(unsafe.StringData(text)))
	return from, from + uintptr(len(text))
}

func apart(a, b string) bool {
	from, to := span(a)
	first, last := span(b)
	return to <= first || last <= from
}

// TestNewMemory: what is answered holds no piece of what was handed in.
func TestNewMemory(t *testing.T) {
	for _, size := range []int{1, 5, 40, 5000} {
		text := strings.Repeat("k", size)
		record, err := pax.Write(text, text)
		if err != api.OK || !apart(record, text) {
			t.Errorf("P4.1: Write of %d bytes: %d, or it holds its argument", size, err)
		}
		key, value, _, err := pax.Read(record, 0)
		if err != api.OK || !apart(key, record) || !apart(value, record) || !apart(key, value) {
			t.Errorf("P4.1: Read of %d bytes: %d, or an answer holds a piece of the text or of the other", size, err)
		}
	}
}

// TestArgumentsAlone: what was asked before, or is asked beside, changes nothing.
func TestArgumentsAlone(t *testing.T) {
	var all sync.WaitGroup
	for worker := range 8 {
		all.Go(func() {
			x := &texter{uint64(worker)}
			for range 1500 {
				key, value := x.key(1+x.below(12)), x.text(x.below(90))
				record := recordOf(key, value)
				wantWrite(t, "P4.1", key, value, record, api.OK)
				wantNone(t, "P4.1", record[:x.below(len(record)-1)+1], 0)
				wantRead(t, "P4.1", record, 0, key, value, len(record), api.OK)
				wantWrite(t, "P4.1", key+"=", value, "", api.ErrArg)
				wantWrite(t, "P4.1", key, value, record, api.OK)
			}
		})
	}
	all.Wait()
}
