package version_test

import (
	"encoding/binary"
	"fmt"
	"math"
	"slices"
	"strings"
	"sync"
	"testing"
	"unsafe"

	"coffer/api"
	"coffer/names"
	"coffer/version"
)

// small are the bytes of small names, in their order.
const small = "-0123456789abcdefghijklmnopqrstuvwxyz"

// texter tells numbers and texts that look like chance and are the same each time.
type texter struct{ x uint64 }

func (t *texter) number() uint64 {
	t.x += 0x9e3779b97f4a7c15
	z := t.x
	z = (z ^ z>>30) * 0xbf58476d1ce4e5b9
	z = (z ^ z>>27) * 0x94d049bb133111eb
	return z ^ z>>31
}

func (t *texter) below(n int) int { return int(t.number() % uint64(n)) }

// text has n bytes of all kinds.
func (t *texter) text(n int) string {
	b := make([]byte, n)
	for i := range b {
		b[i] = byte(t.number())
	}
	return string(b)
}

// name has n bytes of small names.
func (t *texter) name(n int) string {
	b := make([]byte, n)
	for i := range b {
		b[i] = small[t.below(len(small))]
	}
	return string(b)
}

// seq is a number that is right, of few bytes as often as of many.
func (t *texter) seq() int64 {
	return 1 + int64(t.number()%(1<<(8*(1+t.below(5)))))
}

// pairs is metadata of so many pairs that is right.
func (t *texter) pairs(n int) []api.Pair {
	names := map[string]bool{}
	for len(names) < n {
		names[t.name(1+t.below(16))] = true
	}
	var l []api.Pair
	for name := range names {
		l = append(l, api.Pair{Name: name})
	}
	slices.SortFunc(l, func(a, b api.Pair) int { return strings.Compare(a.Name, b.Name) })
	for i := range l {
		l[i].Value = t.text(t.below(65))
	}
	return l
}

// right is a version that is right.
func (t *texter) right() api.Version {
	v := api.Version{Key: t.text(1 + t.below(32)), Seq: t.seq(), Marker: t.below(4) == 0}
	if !v.Marker {
		v.Data = t.text(t.below(40))
		if t.below(4) == 0 {
			v.Data = t.text(t.below(1025))
		}
		v.Meta = t.pairs(t.below(9))
	}
	return v
}

// any is a version that is right, or wrong in a thing or two.
func (t *texter) any() api.Version {
	v := t.right()
	for range t.below(3) {
		switch t.below(8) {
		case 0:
			v.Seq = int64(t.number())
		case 1:
			v.Seq = -v.Seq
		case 2:
			v.Key = t.text(t.below(2) * (33 + t.below(300)))
		case 3:
			v.Marker = !v.Marker
		case 4:
			v.Data = t.text(1025 + t.below(3))
		case 5:
			v.Meta = append(v.Meta, t.pairs(1+t.below(8))...)
		case 6:
			slices.Reverse(v.Meta)
		case 7:
			v.Meta = append(slices.Clone(v.Meta), api.Pair{Name: "zz" + t.name(t.below(17)), Value: t.text(t.below(70))})
		}
	}
	return v
}

// times is a text of n times a letter.
func times(n int, letter string) string { return strings.Repeat(letter, n) }

// one is the text of one byte.
func one(c int) string { return string([]byte{byte(c)}) }

// pairs are made of names and values in turn.
func pairs(s ...string) []api.Pair {
	var l []api.Pair
	for i := 0; i < len(s); i += 2 {
		l = append(l, api.Pair{Name: s[i], Value: s[i+1]})
	}
	return l
}

// many are so many pairs, their Names in order.
func many(n int) []api.Pair {
	var l []api.Pair
	for i := range n {
		l = append(l, api.Pair{Name: fmt.Sprintf("n%03d", i), Value: "v"})
	}
	return l
}

// most are the pairs of the greatest metadata that is right.
func most() []api.Pair {
	var l []api.Pair
	for i := range 8 {
		l = append(l, api.Pair{Name: one('a'+i) + times(15, "-"), Value: times(64, one(i))})
	}
	return l
}

// isSmall: is a text a small name of 1 to 16 bytes?
func isSmall(s string) bool {
	for i := range len(s) {
		if strings.IndexByte(small, s[i]) < 0 {
			return false
		}
	}
	return 1 <= len(s) && len(s) <= 16
}

// metaOf is the error of metadata by the words of chapter 12.
func metaOf(l []api.Pair) api.Errno {
	if len(l) > 8 {
		return 62
	}
	for i, p := range l {
		if !isSmall(p.Name) || len(p.Value) > 64 || i > 0 && strings.Compare(l[i-1].Name, p.Name) >= 0 {
			return 62
		}
	}
	return 0
}

// errorOf is the chapter's error of a version, reason by reason.
func errorOf(v api.Version) api.Errno {
	switch {
	case v.Seq <= 0 || v.Seq > 1099511627776:
		return 1
	case len(v.Key) < 1 || len(v.Key) > 32:
		return 61
	case v.Marker && len(v.Data) > 0:
		return 63
	case v.Marker && len(v.Meta) > 0:
		return 62
	case v.Marker:
		return 0
	case len(v.Data) > 1024:
		return 63
	}
	return metaOf(v.Meta)
}

// layout is the chapter's bytes of a version that need not be right, as far as
// its counts fit into their bytes.
func layout(v api.Version) string {
	first := byte(0)
	if v.Marker {
		first = 1
	}
	b := binary.BigEndian.AppendUint64([]byte{first}, uint64(v.Seq))
	b = append(append(b, byte(len(v.Key))), v.Key...)
	if v.Marker {
		return string(b)
	}
	b = binary.BigEndian.AppendUint16(b, uint16(len(v.Data)))
	b = append(append(b, v.Data...), byte(len(v.Meta)))
	for _, p := range v.Meta {
		b = append(append(b, byte(len(p.Name))), p.Name...)
		b = append(append(b, byte(len(p.Value))), p.Value...)
	}
	return string(b)
}

// readOf is the chapter's Read: what the bytes say, by places, if there is a
// right version whose bytes they are.
func readOf(b string) (v api.Version, err api.Errno) {
	defer func() {
		if recover() != nil || errorOf(v) != 0 || layout(v) != b {
			v, err = api.Version{}, 4
		}
	}()
	v.Marker = b[0] == 1
	v.Seq = int64(binary.BigEndian.Uint64([]byte(b[1:9])))
	at := 9
	next := func(n int) string {
		at += n
		return b[at-n : at]
	}
	v.Key = next(int(next(1)[0]))
	if v.Marker {
		return v, 0
	}
	v.Data = next(int(binary.BigEndian.Uint16([]byte(next(2)))))
	for range next(1)[0] {
		name := next(int(next(1)[0]))
		v.Meta = append(v.Meta, api.Pair{Name: name, Value: next(int(next(1)[0]))})
	}
	return v, 0
}

func same(a, b api.Version) bool {
	return a.Key == b.Key && a.Seq == b.Seq && a.Marker == b.Marker && a.Data == b.Data && slices.Equal(a.Meta, b.Meta)
}

// short is a version as an error tells it.
func short(v api.Version) string {
	return fmt.Sprintf("{Key %.40q Seq %d Marker %v, %d bytes %.40q, %d pairs %.300q}", v.Key, v.Seq, v.Marker, len(v.Data), v.Data, len(v.Meta), v.Meta)
}

// digits are bytes as an error tells them.
func digits(b string) string { return fmt.Sprintf("% .120x (%d bytes)", b, len(b)) }

func wantWrite(t *testing.T, what string, v api.Version, want string, wantErr api.Errno) {
	t.Helper()
	if got, err := version.Write(v); got != want || err != wantErr {
		t.Errorf("P13.1: %s: Write(%s) = %s, %d, want %s, %d", what, short(v), digits(got), err, digits(want), wantErr)
	}
}

func wantRead(t *testing.T, what, b string, want api.Version) {
	t.Helper()
	if got, err := version.Read(b); !same(got, want) || err != api.OK {
		t.Errorf("P13.1: %s: Read(%s) = %s, %d, want %s", what, digits(b), short(got), err, short(want))
	}
}

func wantForm(t *testing.T, what, b string) {
	t.Helper()
	if got, err := version.Read(b); !same(got, api.Version{}) || err != api.ErrForm {
		t.Errorf("P13.1: %s: Read(%s) = %s, %d, want the zero Version, %d", what, digits(b), short(got), err, api.ErrForm)
	}
}

// wantBoth: a version is right, and has these bytes.
func wantBoth(t *testing.T, what string, v api.Version, b string) {
	t.Helper()
	wantWrite(t, what, v, b, api.OK)
	wantRead(t, what, b, v)
}

// wantWrong: a version is not right, and neither are its bytes, were they told.
func wantWrong(t *testing.T, what string, v api.Version, err api.Errno) {
	t.Helper()
	wantWrite(t, what, v, "", err)
	if fits(v) {
		wantForm(t, what, layout(v))
	}
}

// fits: do all that a version has and its counts stand in its bytes?
func fits(v api.Version) bool {
	if v.Marker && (v.Data != "" || len(v.Meta) > 0) {
		return false
	}
	fit := len(v.Key) < 256 && len(v.Data) < 65536 && len(v.Meta) < 256
	for _, p := range v.Meta {
		fit = fit && len(p.Name) < 256 && len(p.Value) < 256
	}
	return fit
}

// wantModel: Write answers as the chapter says.
func wantModel(t *testing.T, what string, v api.Version) {
	t.Helper()
	if err := errorOf(v); err != api.OK {
		wantWrong(t, what, v, err)
		return
	}
	wantBoth(t, what, v, layout(v))
}

// wantReadModel: Read answers as the chapter says; what it reads is written as it was.
func wantReadModel(t *testing.T, what, b string) {
	t.Helper()
	want, wantErr := readOf(b)
	got, err := version.Read(b)
	if !same(got, want) || err != wantErr {
		t.Errorf("P13.1: %s: Read(%s) = %s, %d, want %s, %d", what, digits(b), short(got), err, short(want), wantErr)
	}
	if err != api.OK {
		return
	}
	if again, err := version.Write(got); again != b || err != api.OK {
		t.Errorf("P13.2: %s: Write of what Read reads of %s = %s, %d", what, digits(b), digits(again), err)
	}
}

// samples are versions that are right, of all kinds.
func samples() []api.Version {
	return []api.Version{
		{Key: "k", Seq: 1},
		{Key: "k", Seq: 1, Marker: true},
		{Key: "k", Seq: 258, Data: "ab", Meta: pairs("t", "x")},
		{Key: "\x00", Seq: 256, Data: "\x00", Meta: pairs("-", "")},
		{Key: "\x01\x01\x01", Seq: 1 << 32, Data: "\x00\x00\x00", Meta: pairs("0", "\x00\x00", "00", "\x01")},
		{Key: times(32, "\xff"), Seq: api.MaxSeq, Marker: true},
		{Key: times(32, "\x00"), Seq: api.MaxSeq - 1, Data: times(300, "\x01"), Meta: most()},
		{Key: "two", Seq: 0x0102030405, Data: times(5, "\x01"), Meta: pairs("a", "", "ab", "v", "b", times(64, "\xfe"))},
	}
}

func TestExamples(t *testing.T) {
	first := "\x00\x00\x00\x00\x00\x00\x00\x01\x02\x01k\x00\x02ab\x01\x01t\x01x"
	wantBoth(t, "example 1", api.Version{Key: "k", Seq: 258, Data: "ab", Meta: pairs("t", "x")}, first)
	wantBoth(t, "example 1", api.Version{Key: "k", Seq: 1, Marker: true}, "\x01\x00\x00\x00\x00\x00\x00\x00\x01\x01k")

	wantBoth(t, "example 2", api.Version{Key: "k", Seq: 1}, "\x00\x00\x00\x00\x00\x00\x00\x00\x01\x01k\x00\x00\x00")
	if b, _ := version.Write(api.Version{Key: "k", Seq: 1}); len(b) != 14 {
		t.Errorf("P13.1: example 2: %d bytes, want 14", len(b))
	}

	wantWrong(t, "example 3", api.Version{Key: "k"}, api.ErrArg)
	wantWrong(t, "example 3", api.Version{Key: "k", Seq: api.MaxSeq + 1}, api.ErrArg)
	wantWrong(t, "example 3", api.Version{}, api.ErrArg)
	wantWrong(t, "example 3", api.Version{Seq: api.MaxSeq + 1}, api.ErrArg)
	wantWrong(t, "example 3", api.Version{Seq: 1}, api.ErrKey)
	wantWrong(t, "example 3", api.Version{Key: "k", Seq: 1, Marker: true, Data: "x"}, api.ErrData)
	wantWrong(t, "example 3", api.Version{Key: "k", Seq: 1, Data: times(1025, "d")}, api.ErrData)
	wantWrong(t, "example 3", api.Version{Key: "k", Seq: 1, Marker: true, Meta: pairs("a", "x")}, api.ErrMeta)
	wantWrong(t, "example 3", api.Version{Key: "k", Seq: 1, Meta: pairs("b", "x", "a", "y")}, api.ErrMeta)
	wantWrong(t, "example 3", api.Version{Key: "k", Seq: 1, Meta: many(9)}, api.ErrMeta)

	wantForm(t, "example 4", "")
	wantForm(t, "example 4, 02 first", "\x02"+first[1:])
	wantForm(t, "example 4, 00 02 made 00 01", first[:11]+"\x00\x01"+first[13:])
	wantForm(t, "example 4, without the last", first[:len(first)-1])
	wantForm(t, "example 4, 00 behind", first+"\x00")
}

// TestSeq: the edges of numbers, each byte of them, and those that are none.
func TestSeq(t *testing.T) {
	right := []int64{1, 2, 255, 256, 257, 65535, 65536, 1<<31 - 1, 1 << 31, 1<<32 - 1, 1 << 32, 0x0102030405, api.MaxSeq - 1, api.MaxSeq}
	for i := range 40 {
		right = append(right, 1<<i)
	}
	for _, n := range right {
		wantBoth(t, "a number", api.Version{Key: "k", Seq: n}, layout(api.Version{Key: "k", Seq: n}))
		wantBoth(t, "a marker's number", api.Version{Key: "k", Seq: n, Marker: true}, layout(api.Version{Key: "k", Seq: n, Marker: true}))
	}
	wrong := []int64{0, -1, -255, -256, -api.MaxSeq, api.MaxSeq + 1, api.MaxSeq + 255, 2 * api.MaxSeq, math.MaxInt64, math.MaxInt64 - 1, math.MinInt64, math.MinInt64 + 1}
	for i := 41; i < 64; i++ {
		wrong = append(wrong, math.MinInt64>>(63-i), int64(uint64(1)<<i|1))
	}
	for _, n := range wrong {
		for _, v := range []api.Version{{Key: "k"}, {Key: "k", Marker: true}, {}, {Key: "k", Data: times(1025, "d")}, {Key: "k", Meta: many(9)}} {
			v.Seq = n
			wantWrong(t, "no number", v, api.ErrArg)
		}
	}
}

// TestKeys: each length, of each byte.
func TestKeys(t *testing.T) {
	x := &texter{1}
	for n := range 256 {
		for _, key := range []string{times(n, "k"), times(n, "\x00"), times(n, "\xff"), x.text(n)} {
			for _, v := range []api.Version{{Key: key, Seq: 7}, {Key: key, Seq: 7, Marker: true}, {Key: key, Seq: 7, Data: "d", Meta: pairs("a", "b")}} {
				wantModel(t, "a key's length", v)
			}
		}
	}
	for c := range 256 {
		for _, n := range []int{1, 2, 32} {
			wantModel(t, "a key's bytes", api.Version{Key: times(n, one(c)), Seq: 7})
			wantModel(t, "a key's bytes", api.Version{Key: times(n, one(c)), Seq: 7, Marker: true})
		}
	}
	// Lengths that leave one byte of their count as a right key's.
	for _, n := range []int{256, 257, 288, 512 + 1, 65536 + 1} {
		wantWrong(t, "a great key", api.Version{Key: times(n, "k"), Seq: 7}, api.ErrKey)
	}
}

// TestMarkers: with data, with pairs, with both and with neither.
func TestMarkers(t *testing.T) {
	for _, data := range []string{"", "x", "\x00", times(1024, "d"), times(1025, "d")} {
		for _, meta := range [][]api.Pair{nil, {}, pairs("a", "b"), pairs("", ""), pairs("b", "", "a", ""), most(), many(9)} {
			v := api.Version{Key: "k", Seq: 9, Marker: true, Data: data, Meta: meta}
			switch {
			case data != "":
				wantWrite(t, "a marker with data", v, "", api.ErrData)
			case len(meta) > 0:
				wantWrite(t, "a marker with pairs", v, "", api.ErrMeta)
			default:
				wantBoth(t, "a marker", v, "\x01\x00\x00\x00\x00\x00\x00\x00\x09\x01k")
			}
		}
	}
	// What another version has behind its key a marker has not.
	for _, behind := range []string{"\x00", "\x00\x00", "\x00\x00\x00", "\x00\x01x\x00", "\x00\x00\x01\x01a\x00"} {
		wantForm(t, "a marker and more", "\x01\x00\x00\x00\x00\x00\x00\x00\x09\x01k"+behind)
	}
}

// TestData: each length about the edges, and lengths that two bytes cannot say.
func TestData(t *testing.T) {
	x := &texter{2}
	for n := range 1100 {
		for _, data := range []string{times(n, "\x00"), x.text(n)} {
			wantModel(t, "data", api.Version{Key: "k", Seq: 3, Data: data})
			wantModel(t, "data and pairs", api.Version{Key: "k", Seq: 3, Data: data, Meta: pairs("a", "b")})
		}
	}
	for _, n := range []int{1025, 1280, 2048, 65535, 65536, 65537, 65536 + 1024, 1 << 24} {
		wantWrong(t, "great data", api.Version{Key: "k", Seq: 3, Data: times(n, "d")}, api.ErrData)
	}
}

// TestMeta: how many pairs, how long Names and Values, which order.
func TestMeta(t *testing.T) {
	with := func(l []api.Pair) api.Version { return api.Version{Key: "k", Seq: 5, Data: "d", Meta: l} }
	for n := range 256 {
		wantModel(t, "a count", with(many(n)))
	}
	for _, n := range []int{256, 257, 264} {
		wantWrong(t, "a great count", with(make([]api.Pair, n)), api.ErrMeta)
	}
	wantModel(t, "the greatest", with(most()))
	for n := range 256 {
		for at := range 4 {
			l := pairs("a", "", "b", "v", "c", "ww", "d", "xxx")
			l[at].Name = times(n, l[at].Name)
			wantModel(t, "a Name's length", with(l))
			l = pairs("a", "", "b", "v", "c", "ww", "d", "xxx")
			l[at].Value = times(n, one(n))
			wantModel(t, "a Value's length", with(l))
		}
	}
	for c := range 256 {
		wantModel(t, "a Name's byte", with(pairs(one(c), "")))
		wantModel(t, "a Name's byte", with(pairs("-"+one(c)+"a", "x")))
		wantModel(t, "a Value's byte", with(pairs("a", one(c), "b", times(64, one(c)))))
	}
	for _, a := range []string{"a", "b", "ab", "a-", "-", "0", "z"} {
		for _, b := range []string{"a", "b", "ab", "a-", "-", "0", "z"} {
			wantModel(t, "an order", with(pairs(a, "x", b, "y")))
			wantModel(t, "an order behind", with(append(pairs("--", ""), pairs(a, "x", b, "x")...)))
		}
	}
}

// TestFaults: every choice of several faults at once tells the first of them.
func TestFaults(t *testing.T) {
	for _, seq := range []int64{0, -1, api.MaxSeq + 1, math.MaxInt64, 1, api.MaxSeq} {
		for _, key := range []string{"", times(33, "k"), "k", times(32, "k")} {
			for _, data := range []string{"", "x", times(1024, "d"), times(1025, "d")} {
				for _, meta := range [][]api.Pair{nil, most(), many(9), pairs("", ""), pairs("A", ""), pairs("b", "", "a", ""), pairs("a", "", "a", ""), pairs("a", times(65, "v")), pairs(times(17, "a"), "")} {
					for _, marked := range []bool{false, true} {
						v := api.Version{Key: key, Seq: seq, Marker: marked, Data: data, Meta: meta}
						got, err := version.Write(v)
						if want := errorOf(v); err != want || (want != api.OK) != (got == "") {
							t.Errorf("P13.1: Write(%s) = %s, %d, want %d", short(v), digits(got), err, want)
						}
					}
				}
			}
		}
	}
}

// TestEveryByte: what Write tells, with a byte left out, put in, made another,
// and cut short, at every place.
func TestEveryByte(t *testing.T) {
	for i, v := range samples() {
		b, err := version.Write(v)
		if b != layout(v) || err != api.OK {
			t.Fatalf("P13.1: Write(%s) = %s, %d", short(v), digits(b), err)
		}
		for at := range len(b) {
			what := fmt.Sprintf("sample %d, place %d", i, at)
			wantForm(t, what+", cut short", b[:at])
			wantReadModel(t, what+", without what is ahead", b[at:])
			wantReadModel(t, what+", left out", b[:at]+b[at+1:])
			for c := range 256 {
				wantReadModel(t, what+", made another", b[:at]+one(c)+b[at+1:])
				wantReadModel(t, what+", put in", b[:at]+one(c)+b[at:])
			}
		}
		for c := range 256 {
			wantForm(t, "one more behind", b+one(c))
			if c != 0 && c != 1 {
				wantForm(t, "the first byte", one(c)+b[1:])
			}
		}
		for _, w := range samples() {
			wantForm(t, "two behind one another", b+layout(w))
		}
		wantForm(t, "much behind", b+times(100000, "\x00"))
	}
}

// TestCounts: every count of every kind, greater and smaller than what is left.
func TestCounts(t *testing.T) {
	head := "\x00\x00\x00\x00\x00\x00\x00\x00\x01"
	tails := []string{"", "k", "kk", "k\x00\x00\x00", times(32, "k"), times(32, "k") + "\x00\x00\x00", times(300, "\x00"), times(300, "\x01")}
	for c := range 256 {
		for _, tail := range tails {
			wantReadModel(t, "a key's count", head+one(c)+tail)
			wantReadModel(t, "a marker's key's count", "\x01"+head[1:]+one(c)+tail)
			wantReadModel(t, "data's lower count", head+"\x01k\x00"+one(c)+tail)
			wantReadModel(t, "data's upper count", head+"\x01k"+one(c)+"\x00"+tail)
			wantReadModel(t, "the count of pairs", head+"\x01k\x00\x00"+one(c)+tail)
			wantReadModel(t, "a Name's count", head+"\x01k\x00\x00\x01"+one(c)+tail)
			wantReadModel(t, "a Value's count", head+"\x01k\x00\x00\x01\x01a"+one(c)+tail)
			wantReadModel(t, "a second Value's count", head+"\x01k\x00\x00\x02\x01a\x00\x01b"+one(c)+tail)
		}
	}
	for size := range 65536 {
		if size > 1100 && size%251 > 2 && size < 65500 {
			continue
		}
		b := head + "\x01k" + one(size>>8) + one(size) + times(size, "d") + "\x00"
		wantReadModel(t, "data's count", b)
		wantForm(t, "data's count, one fewer", b[:len(b)-1])
	}
}

// TestSmallTexts: all texts of a few bytes behind one number, and that no
// version's bytes begin another's.
func TestSmallTexts(t *testing.T) {
	var right []string
	letters := "\x00\x01\x02ab"
	var all func(b string, left int)
	all = func(b string, left int) {
		wantReadModel(t, "small texts", b)
		if _, err := version.Read(b); err == api.OK {
			right = append(right, b)
		}
		for i := range len(letters) {
			if left > 0 {
				all(b+letters[i:i+1], left-1)
			}
		}
	}
	for _, first := range []string{"", "\x00", "\x01", "\x02"} {
		all(first, 2)
		all(first+"\x00\x00\x00\x00\x00\x00\x00\x01", 7)
	}
	if len(right) < 10 {
		t.Fatalf("P13.1: %d small texts are versions", len(right))
	}
	wantApart(t, right)
}

// wantApart: none of the texts is another's beginning. In order, the text next
// behind one that begins another begins with it too.
func wantApart(t *testing.T, l []string) {
	t.Helper()
	l = slices.Compact(slices.Sorted(slices.Values(l)))
	for i := 1; i < len(l); i++ {
		if strings.HasPrefix(l[i], l[i-1]) {
			t.Errorf("P13.2: %s begins %s", digits(l[i-1]), digits(l[i]))
		}
	}
}

// TestBeginnings: no version's bytes begin another's, of versions that differ in
// one thing or in many.
func TestBeginnings(t *testing.T) {
	byText := map[string]api.Version{}
	add := func(v api.Version) {
		b, err := version.Write(v)
		if err != api.OK {
			t.Fatalf("P13.1: Write(%s): %d", short(v), err)
		}
		if w, found := byText[b]; found && !same(v, w) {
			t.Errorf("P13.2: %s and %s have one text", short(v), short(w))
		}
		byText[b] = v
	}
	for _, v := range samples() {
		add(v)
		for n := 1; n <= 32; n++ {
			v.Key = times(n, "\x00")
			add(v)
		}
	}
	for n := range 300 {
		add(api.Version{Key: "k", Seq: 1, Data: times(n, "\x00")})
		add(api.Version{Key: "k", Seq: 1, Data: times(n, "\x01")})
	}
	for n := range 9 {
		add(api.Version{Key: "k", Seq: 1, Meta: many(n)})
		add(api.Version{Key: "k", Seq: 1, Meta: most()[:n]})
	}
	x := &texter{3}
	for range 20000 {
		add(x.right())
	}
	var all []string
	for b := range byText {
		all = append(all, b)
	}
	wantApart(t, all)
}

// TestThereAndBack: walks over versions of all kinds, and over texts near theirs.
func TestThereAndBack(t *testing.T) {
	x := &texter{4}
	for range 20000 {
		v := x.right()
		b, err := version.Write(v)
		if got, readErr := version.Read(b); err != api.OK || readErr != api.OK || !same(got, v) {
			t.Fatalf("P13.2: %s is written with %d, and read as %s with %d", short(v), err, short(got), readErr)
		}
		changed := []byte(b)
		for range 1 + x.below(4) {
			at := x.below(len(changed))
			switch x.below(4) {
			case 0:
				changed[at] = byte(x.number())
			case 1:
				changed[at] = changed[x.below(len(changed))]
			case 2:
				changed = slices.Insert(changed, at, byte(x.below(4)))
			case 3:
				changed = append(slices.Delete(changed, at, at+1), byte(x.below(3)))
			}
		}
		wantReadModel(t, "a changed text", string(changed))
		wantReadModel(t, "any text", x.text(x.below(60)))
		wantReadModel(t, "any text behind a head", "\x00\x00\x00"+one(x.below(2))+"\x00\x00\x00\x00"+x.text(x.below(60)))
	}
	for range 20000 {
		wantModel(t, "any version", x.any())
	}
	for range 20 {
		wantForm(t, "a long text", x.text(1<<20))
		wantForm(t, "a long text", times(1<<20, one(x.below(3))))
	}
}

// TestNames: right is what layer 12 takes as right, with a number that is.
func TestNames(t *testing.T) {
	x := &texter{5}
	for range 20000 {
		v := x.any()
		want := names.Version(v)
		if v.Seq < 1 || v.Seq > api.MaxSeq {
			want = api.ErrArg
		}
		if _, err := version.Write(v); err != want {
			t.Fatalf("P13.1: Write(%s): %d, and layer 12 says %d", short(v), err, want)
		}
	}
}

// TestHandedIn: the list of pairs that is handed in stays as it is, its spare
// room too, and isn't kept.
func TestHandedIn(t *testing.T) {
	x := &texter{6}
	for range 3000 {
		v := x.any()
		room := append(slices.Clone(v.Meta), x.pairs(3)...)
		v.Meta = room[:len(v.Meta)]
		before := slices.Clone(room)
		b, err := version.Write(v)
		if !slices.Equal(room, before) {
			t.Fatalf("P13.3: Write made %q of %q", room, before)
		}
		was := strings.Clone(b)
		for i := range room {
			room[i] = api.Pair{Name: "other", Value: "other"}
		}
		if b != was {
			t.Fatalf("P13.3: what Write told hangs on the list behind it: %s, it was %s", digits(b), digits(was))
		}
		v.Meta = before[:len(v.Meta)]
		if again, errAgain := version.Write(v); again != b || errAgain != err {
			t.Fatalf("P13.3: Write tells %s, %d, then %s, %d", digits(b), err, digits(again), errAgain)
		}
	}
}

// within: does a text lie in the memory of another?
func within(part, whole string) bool {
	if part == "" || whole == "" {
		return false
	}
	at, from := uintptr(unsafe.Pointer(unsafe.StringData(part))), uintptr(unsafe.Pointer(unsafe.StringData(whole)))
	return at >= from && at < from+uintptr(len(whole))
}

// TestNewMemory: two readings of one text share no list, and none keeps the text.
func TestNewMemory(t *testing.T) {
	for _, v := range samples() {
		b := layout(v)
		first, _ := version.Read(b)
		second, _ := version.Read(b)
		for i := range first.Meta {
			first.Meta[i] = api.Pair{Name: "other", Value: "other"}
		}
		first.Meta = append(first.Meta, api.Pair{Name: "one more"})
		third, _ := version.Read(b)
		if !same(second, v) || !same(third, v) {
			t.Errorf("P13.3: behind a change of what was answered Read tells %s and %s, want %s", short(second), short(third), short(v))
		}
		texts := []string{third.Key, third.Data}
		for _, p := range third.Meta {
			texts = append(texts, p.Name, p.Value)
		}
		for _, s := range texts {
			if within(s, b) {
				t.Errorf("P13.3: %.40q of what Read answers keeps the text that was handed in", s)
			}
		}
	}
}

// TestArgumentsAlone: many beside one another tell what one alone tells.
func TestArgumentsAlone(t *testing.T) {
	var all sync.WaitGroup
	for i := range 8 {
		all.Go(func() {
			x := &texter{uint64(i % 2)}
			for range 2000 {
				wantModel(t, "beside others", x.any())
				wantReadModel(t, "beside others", x.text(x.below(40)))
			}
		})
	}
	all.Wait()
}
