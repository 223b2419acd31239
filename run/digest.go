package run

import (
	"sync"

	"coffer/api"
	"coffer/backup"
	"coffer/hash"
	"coffer/script"
)

// digest is what one worker has found of one bucket: the hash of its export, or
// why there is none.
type digest struct {
	name string
	sum  [32]byte
	err  api.Errno
}

// digestLines is the digests of all buckets of a store, which is nil where the
// world is down.
func digestLines(s *backup.Store) string {
	if s == nil {
		return errLine(api.ErrOff)
	}
	return toldDigests(digestsOf(s))
}

// toldDigests is the lines of digests; or the error of the first that has one,
// whichever worker found one first.
func toldDigests(l []digest) string {
	for _, d := range l {
		if d.err != api.OK {
			return errLine(d.err)
		}
	}
	return okLine(count(l)) + linesOfEach(l, digestLine)
}

// digestsOf is the digests of all buckets, by their names. The workers need no
// lock: exports change nothing, and the disk of a world that is up has power, so
// they may run beside one another; and each keeps its digest in a place of its
// own.
func digestsOf(s *backup.Store) []digest {
	names := s.Names()
	l := make([]digest, len(names))
	var workers sync.WaitGroup
	for i, name := range names {
		workers.Add(1)
		go func() {
			defer workers.Done()
			l[i] = digestOf(s, name)
		}()
	}
	workers.Wait()
	return l
}

func digestOf(s *backup.Store, name string) digest {
	text, err := s.Export(name)
	if err != api.OK {
		return digest{name: name, err: err}
	}
	return digest{name: name, sum: hash.Sum(text)}
}

func digestLine(d digest) string {
	return line("digest", script.Quote(d.name), hash.Hex(d.sum))
}
