package script

import (
	"strconv"
	"strings"

	"coffer/api"
)

const (
	// end is what ends a line, remark what a line begins with that says nothing.
	end    = "\n"
	remark = "#"
	// first and last are the bytes between which all stand that quotes may have.
	first = ' '
	last  = '~'
	blank = ' '
	quote = '"'
	// escape stands ahead of a byte that doesn't stand for itself, hex between it
	// and a byte's two digits.
	escape = '\\'
	hex    = 'x'
	digits = "0123456789abcdef"
)

// wordsOf are the words of a line as they stand there; there is at least one.
// That each is a word, and not empty, is for those to see who read them.
func wordsOf(line string) []string {
	var words []string
	for {
		n := wordSize(line)
		words = append(words, line[:n])
		if n == len(line) {
			return words
		}
		line = line[n+1:]
	}
}

// wordSize is how many bytes of a line stand ahead of its first blank outside of
// quotes; all, if it has none.
func wordSize(line string) int {
	at, inQuotes := 0, false
bytes:
	for ; at < len(line); at++ {
		switch line[at] {
		case escape:
			at++ // an escaped quote ends no text
		case quote:
			inQuotes = !inQuotes
		case blank:
			if !inQuotes {
				break bytes
			}
		}
	}
	return min(at, len(line))
}

// reader reads the words of a line, one behind the other; bad: one of them was
// not what was asked for, or there was none.
type reader struct {
	words []string
	bad   bool
}

func (r *reader) hasMore() bool { return len(r.words) > 0 }

// next is the next word; it is empty, which none is, where there is none.
func (r *reader) next() string {
	if !r.hasMore() {
		return ""
	}
	word := r.words[0]
	r.words = r.words[1:]
	return word
}

func (r *reader) number() int64 {
	n, ok := numberOf(r.next())
	r.bad = r.bad || !ok
	return n
}

func (r *reader) text() string {
	text, ok := textOf(r.next())
	r.bad = r.bad || !ok
	return text
}

// numberOf is the number that a word is. It is told anew and compared, since
// strconv takes more forms than one.
func numberOf(word string) (int64, bool) {
	n, err := strconv.ParseInt(word, 10, 64)
	if err != nil || strconv.FormatInt(n, 10) != word {
		return 0, false
	}
	return n, true
}

// textOf is the text that a word is in quotes.
func textOf(word string) (string, bool) {
	if len(word) < 2 || word[0] != quote || word[len(word)-1] != quote {
		return "", false
	}
	rest := word[1 : len(word)-1]
	text := make([]byte, 0, len(rest))
	for rest != "" {
		c, n := byteOf(rest)
		if n == 0 {
			return "", false
		}
		text = append(text, c)
		rest = rest[n:]
	}
	return string(text), true
}

// byteOf is the byte that stands at the beginning of what is in quotes, which
// isn't empty, and how many bytes tell it: none, if it is none.
func byteOf(quoted string) (c byte, n int) {
	c = quoted[0]
	switch {
	case c < first || c > last || c == quote:
		return 0, 0
	case c != escape:
		return c, 1
	case len(quoted) >= 2 && (quoted[1] == quote || quoted[1] == escape):
		return quoted[1], 2
	case len(quoted) < 4 || quoted[1] != hex:
		return 0, 0
	}
	high, low := strings.IndexByte(digits, quoted[2]), strings.IndexByte(digits, quoted[3])
	if high < 0 || low < 0 {
		return 0, 0
	}
	return byte(high<<4 | low), 4
}

// writer puts words behind a text. The line under way may make it most bytes
// long; where it is longer the line is too long, whatever would come.
type writer struct {
	out  []byte
	most int
}

func (w *writer) isFull() bool { return len(w.out) > w.most }

func (w *writer) number(n int64) {
	if !w.isFull() {
		w.out = strconv.AppendInt(append(w.out, blank), n, 10)
	}
}

// text puts a text in quotes there. Of one that is longer than a line may be no
// more is quoted than makes the line too long.
func (w *writer) text(s string) {
	if !w.isFull() {
		w.out = appendQuoted(append(w.out, blank), s[:min(len(s), api.MaxLine)])
	}
}

// appendQuoted puts the one form of a text behind b.
func appendQuoted(b []byte, s string) []byte {
	b = append(b, quote)
	for i := range len(s) {
		switch c := s[i]; {
		case c == quote || c == escape:
			b = append(b, escape, c)
		case c < first || c > last:
			b = append(b, escape, hex, digits[c>>4], digits[c&15])
		default:
			b = append(b, c)
		}
	}
	return append(b, quote)
}
