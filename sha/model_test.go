package sha_test

import (
	"encoding/binary"
	"math/big"
	"math/rand"
	"slices"
	"testing"

	"hawser/api"
)

// The chapter's section 'The digest', written out plainly: the numbers are
// worked out from the roots, the filling is laid down, blocks are gone through
// with lists of words.

// primes: the first n.
func primes(n int) []int64 {
	var l []int64
	for p := int64(2); len(l) < n; p++ {
		if !slices.ContainsFunc(l, func(q int64) bool { return p%q == 0 }) {
			l = append(l, p)
		}
	}
	return l
}

// rootBits: the first 32 bits behind the point of p's root of that power, found
// as the greatest x whose power is at most p * 2^(32 * power).
func rootBits(p, power int64) uint32 {
	e := big.NewInt(power)
	most := new(big.Int).Lsh(big.NewInt(p), uint(32*power))
	x := new(big.Int)
	for bit := 40; bit >= 0; bit-- {
		y := new(big.Int).SetBit(x, bit, 1)
		if new(big.Int).Exp(y, e, nil).Cmp(most) <= 0 {
			x = y
		}
	}
	return uint32(x.Uint64())
}

func roots(n int, power int64) []uint32 {
	var l []uint32
	for _, p := range primes(n) {
		l = append(l, rootBits(p, power))
	}
	return l
}

var (
	modelFirst   = roots(8, 2)
	modelNumbers = roots(64, 3)
)

func turned(x uint32, n int) uint32 { return x>>n | x<<(32-n) }

// modelBlock: the state's words behind a block of 64 bytes.
func modelBlock(state []uint32, block []byte) []uint32 {
	var w []uint32
	for i := range 16 {
		w = append(w, binary.BigEndian.Uint32(block[4*i:]))
	}
	for i := 16; i < 64; i++ {
		x, y := w[i-15], w[i-2]
		s0 := turned(x, 7) ^ turned(x, 18) ^ (x >> 3)
		s1 := turned(y, 17) ^ turned(y, 19) ^ (y >> 10)
		w = append(w, w[i-16]+s0+w[i-7]+s1)
	}
	s := slices.Clone(state)
	for i := range 64 {
		a, b, c, e, f, g, h := s[0], s[1], s[2], s[4], s[5], s[6], s[7]
		t := h + (turned(e, 6) ^ turned(e, 11) ^ turned(e, 25)) + ((e & f) ^ (^e & g)) + modelNumbers[i] + w[i]
		u := (turned(a, 2) ^ turned(a, 13) ^ turned(a, 22)) + ((a & b) ^ (a & c) ^ (b & c))
		s = append([]uint32{t + u}, s[:7]...)
		s[4] += t
	}
	for i := range s {
		s[i] += state[i]
	}
	return s
}

// model is what a hasher is, by the chapter.
type model struct {
	state []uint32
	size  uint64
	over  []byte
}

func newModel() model { return model{state: modelFirst} }

func (m model) write(b []byte) model {
	m.size += uint64(len(b))
	m.over = slices.Concat(m.over, b)
	for len(m.over) >= 64 {
		m.state = modelBlock(m.state, m.over[:64])
		m.over = m.over[64:]
	}
	return m
}

func (m model) sum() api.Digest {
	// Ahead of what is left over stand whole blocks, so the length modulo 64
	// is told by it.
	b := append(slices.Clone(m.over), 128)
	for len(b)%64 != 56 {
		b = append(b, 0)
	}
	count := new(big.Int).Mul(new(big.Int).SetUint64(m.size), big.NewInt(8))
	b = append(b, count.FillBytes(make([]byte, 8))...)
	m.over = nil
	m = m.write(b)
	var d api.Digest
	copy(d[:], bigEndian(m.state))
	return d
}

func (m model) save() []byte { return savedBytes(m.size, m.state, m.over) }

func bigEndian(words []uint32) []byte {
	var b []byte
	for _, w := range words {
		b = binary.BigEndian.AppendUint32(b, w)
	}
	return b
}

// savedBytes: a saved hasher's bytes, whether they may be loaded or not.
func savedBytes(size uint64, words []uint32, over []byte) []byte {
	return slices.Concat([]byte("hs"), binary.AppendUvarint(nil, size), bigEndian(words), over)
}

func randomBytes(r *rand.Rand, n int) []byte {
	b := make([]byte, n)
	r.Read(b)
	return b
}

func randomWords(r *rand.Rand) []uint32 {
	l := make([]uint32, 8)
	for i := range l {
		l[i] = r.Uint32()
	}
	return l
}

// cutUp: b in pieces of at most that many bytes, some of them empty.
func cutUp(r *rand.Rand, b []byte, most int) [][]byte {
	var l [][]byte
	for len(b) > 0 {
		n := r.Intn(min(len(b), most) + 1)
		l = append(l, b[:n])
		b = b[n:]
	}
	return l
}

// edges: lengths at which a filling needs another block, or a block is whole.
var edges = []int{0, 1, 3, 54, 55, 56, 57, 62, 63, 64, 65, 118, 119, 120, 121, 127, 128, 129, 183, 184, 191, 192, 193, 1000}

// The document writes the numbers out as well; both ways of telling them must
// be the same ones.
func TestRootsAreTheDocuments(t *testing.T) {
	if modelFirst[0] != 0x6a09e667 || modelFirst[7] != 0x5be0cd19 {
		t.Errorf("square roots: %x", modelFirst)
	}
	if modelNumbers[0] != 0x428a2f98 || modelNumbers[63] != 0xc67178f2 {
		t.Errorf("cube roots: %x", modelNumbers)
	}
}
