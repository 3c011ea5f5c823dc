package message_test

import (
	"math/rand"
	"slices"
	"testing"

	"hawser/message"
)

// turned is bytes with some bits turned.
func turned(b []byte, bits ...int) []byte {
	b = slices.Clone(b)
	for _, n := range bits {
		b[n/8] ^= 1 << (n % 8)
	}
	return b
}

// P15.7: one and two bits of each message; three bits of a short one.
func TestBitsTurned(t *testing.T) {
	for _, m := range small() {
		b, _ := message.Encode(m)
		n := min(8*len(b), 400)
		for i := range n {
			refused(t, "one bit", turned(b, i))
			for j := range i {
				refused(t, "two bits", turned(b, i, j))
			}
		}
	}
	b, _ := message.Encode(small()[15]) // the chapter's adopted
	for i := range 8 * len(b) {
		for j := range i {
			for k := range j {
				refused(t, "three bits", turned(b, i, j, k))
			}
		}
	}
}

func TestThreeBitsAnywhere(t *testing.T) {
	r := rand.New(rand.NewSource(155))
	for _, m := range slices.Concat(small(), great()) {
		b, _ := message.Encode(m)
		tries := 2000
		if len(b) > 1000 {
			tries = 60
		}
		for range tries {
			bits := []int{r.Intn(8 * len(b)), r.Intn(8 * len(b)), r.Intn(8 * len(b))}
			slices.Sort(bits)
			bits = slices.Compact(bits)
			refused(t, "up to three bits", turned(b, bits...))
		}
	}
}

// P15.7: any bits within 32 that follow one another.
func TestBursts(t *testing.T) {
	r := rand.New(rand.NewSource(156))
	for _, m := range slices.Concat(small(), great()) {
		b, _ := message.Encode(m)
		step := 1
		if len(b) > 1000 {
			step = len(b) / 4 // in bits
		}
		for first := 0; first < 8*len(b); first += step {
			n := min(32, 8*len(b)-first)
			for range 8 {
				var bits []int
				for i := range n {
					if r.Intn(2) == 0 {
						bits = append(bits, first+i)
					}
				}
				if len(bits) > 0 {
					refused(t, "a burst", turned(b, bits...))
				}
			}
			all := make([]int, n)
			for i := range all {
				all[i] = first + i
			}
			refused(t, "32 bits", turned(b, all...))
		}
	}
}
