package index

import (
	"strings"

	"coffer/api"
)

// What is said of a value begins with a mark of where it stands.
const (
	// inLeaf: the value itself follows.
	inLeaf = "\x00"
	// inBlocks: how many bytes it has follows, then the numbers of the blocks
	// that hold them, zeros behind the last.
	inBlocks = "\x01"
	// maxInLeaf is how many bytes a value in its leaf has at most: with its mark
	// it may stand in a page.
	maxInLeaf = 150 - len(inLeaf)
	// numberSize is how many bytes a number has; all blocks' numbers fit.
	numberSize = 2
)

// keep lays a value, and is what is to be said of it.
func (i *Index) keep(value string) (string, api.Errno) {
	if len(value) <= maxInLeaf {
		return inLeaf + value, api.OK
	}
	l, err := i.s.Alloc(blocksOf(len(value)))
	if err != api.OK {
		return "", err
	}
	said := inBlocks + number(len(value))
	for _, block := range l {
		part := value[:min(len(value), api.Sector)]
		value = value[len(part):]
		part += strings.Repeat("\x00", api.Sector-len(part))
		if err := i.s.Tx().Write(block, part); err != api.OK {
			return "", err
		}
		said += number(block)
	}
	return said, api.OK
}

// text is the value of which this is said.
func (i *Index) text(said string) (string, api.Errno) {
	if value, ok := strings.CutPrefix(said, inLeaf); ok {
		return value, api.OK
	}
	size, l, err := parts(said)
	if err != api.OK {
		return "", err
	}
	value := ""
	for _, block := range l {
		part, err := i.s.Tx().Read(block)
		if err != api.OK {
			return "", err
		}
		value += part
	}
	return value[:size], api.OK
}

// forget gives the blocks back that a value has of which this is said.
func (i *Index) forget(said string) api.Errno {
	if strings.HasPrefix(said, inLeaf) {
		return api.OK
	}
	_, l, err := parts(said)
	if err != api.OK {
		return err
	}
	return i.free(l...)
}

// parts are how many bytes a value in blocks has, and the blocks. ErrTorn: no
// such thing is said.
func parts(said string) (int, []int, api.Errno) {
	rest, ok := strings.CutPrefix(said, inBlocks)
	if !ok || len(rest) < numberSize {
		return 0, nil, api.ErrTorn
	}
	size := readNumber(rest)
	rest = rest[numberSize:]
	if len(rest) != blocksOf(size)*numberSize {
		return 0, nil, api.ErrTorn
	}
	var l []int
	for ; rest != ""; rest = rest[numberSize:] {
		l = append(l, readNumber(rest))
	}
	return size, l, api.OK
}

// blocksOf is how many blocks so many bytes take.
func blocksOf(size int) int { return (size + api.Sector - 1) / api.Sector }

// number is a number's bytes, the greatest first.
func number(n int) string { return string([]byte{byte(n >> 8), byte(n)}) }

// readNumber is the number whose bytes a text begins with.
func readNumber(text string) int { return int(text[0])<<8 | int(text[1]) }
