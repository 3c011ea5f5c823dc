package sha

import "hawser/api"

// A filling's first byte, and how many bytes tell the number of bits.
const (
	fillFirst  = 128
	countBytes = 8
)

// What a saved state begins with.
const (
	savedFirst  = 'h'
	savedSecond = 's'
	savedBytes  = 2
)

// A number's bytes are layer 1's, which this layer does not call.
const (
	groupBits = 7
	more      = 1 << groupBits // set in every byte but a number's last
	maxSize   = 1 << 60
	maxGroups = 9 // hold all numbers up to maxSize, and fit into an int
)

// state is how far a digest has come. It is laid aside by being copied.
type state struct {
	words words            // behind the last whole block
	rest  [blockBytes]byte // what was taken behind that, and bytes 0
	size  int              // how many bytes were taken
}

// beginning is the state of no bytes.
func beginning() state { return state{words: first()} }

// over is how many bytes stand behind the last whole block.
func (s *state) over() int { return s.size % blockBytes }

// take goes on with some more bytes.
func (s *state) take(b []byte) {
	for len(b) > 0 {
		n := copy(s.rest[s.over():], b)
		s.size += n
		b = b[n:]
		if s.over() == 0 {
			s.words = s.words.behind(s.rest)
			// What the words hold is not kept beside them.
			s.rest = [blockBytes]byte{}
		}
	}
}

// digest is the digest of all that was taken. The filling goes into a copy.
func (s state) digest() api.Digest {
	s.take(filling(s.size))
	var d api.Digest
	copy(d[:], laid(s.words[:]...))
	return d
}

// filling is what stands behind so many bytes, to the end of a block.
func filling(size int) []byte {
	// Two blocks have room for it, whatever stands in the first one.
	left := 2*blockBytes - size%blockBytes
	zeros := (left - 1 - countBytes) % blockBytes
	b := make([]byte, 1+zeros)
	b[0] = fillFirst
	// The bits of 2^60 bytes are more than an int holds.
	count := 8 * uint64(size)
	return append(b, laid(uint32(count>>32), uint32(count))...)
}

// save is the state as bytes.
func (s *state) save() []byte {
	b := []byte{savedFirst, savedSecond}
	n := s.size
	for ; n >= more; n >>= groupBits {
		b = append(b, byte(n)|more)
	}
	b = append(b, byte(n))
	b = append(b, laid(s.words[:]...)...)
	return append(b, s.rest[:s.over()]...)
}

// load is the state of which save makes b; false if it makes b of none that
// may be loaded.
func load(b []byte) (state, bool) {
	if len(b) < savedBytes || b[0] != savedFirst || b[1] != savedSecond {
		return state{}, false
	}
	b = b[savedBytes:]
	size, n := number(b)
	if n == 0 || size > maxSize {
		return state{}, false
	}
	b = b[n:]
	s := state{size: size}
	if len(b) != wordBytes*len(s.words)+s.over() {
		return state{}, false
	}
	for i := range s.words {
		s.words[i] = word(b[wordBytes*i:])
	}
	copy(s.rest[:], b[wordBytes*len(s.words):])
	return s, true
}

// number is the number that b begins with, and how many bytes it has; 0 if it
// has not its shortest form, or more than maxGroups.
func number(b []byte) (int, int) {
	v := 0
	for i, c := range b[:min(len(b), maxGroups)] {
		v |= int(c%more) << (groupBits * i)
		if c >= more {
			continue
		}
		if c == 0 && i > 0 {
			return 0, 0
		}
		return v, i + 1
	}
	return 0, 0
}
