// Package sum is layer 1: CRC-64 of texts. See shared/doc/01-sum.md.
package sum

// laidOver is what a step lays over a number whose lowest bit was 1.
const laidOver uint64 = 0xc96c5795d7870f42

// Of is the sum of a text.
func Of(b string) uint64 { return On(0, b) }

// On is the sum of a text with another one behind it, out of the first one's sum.
func On(sum uint64, b string) uint64 {
	made := fourSteps()
	x := ^sum
	for i := range len(b) {
		x ^= uint64(b[i])
		x = x>>4 ^ made[x&15]
		x = x>>4 ^ made[x&15]
	}
	return ^x
}

// fourSteps has at each place what four steps make of that half byte. A half byte
// is just what four steps take away: the bits above it only move, so that these
// and what is made of it can be laid over one another.
func fourSteps() [16]uint64 {
	var made [16]uint64
	for half := range made {
		x := uint64(half)
		for range 4 {
			x = step(x)
		}
		made[half] = x
	}
	return made
}

func step(x uint64) uint64 {
	if x&1 == 1 {
		return x>>1 ^ laidOver
	}
	return x >> 1
}
