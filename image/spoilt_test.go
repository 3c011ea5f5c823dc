package image_test

import (
	"bytes"
	"math/rand"
	"slices"
	"testing"

	"hawser/api"
	"hawser/image"
)

// P9.8: bits are counted through the bytes, from the lowest to the highest of each.

func turn(b []byte, bits ...int) {
	for _, i := range bits {
		b[i/8] ^= 1 << (i % 8)
	}
}

// told: of an image with these bits turned Decode answers an error, and the right one; b is as it was then.
func told(t *testing.T, b []byte, bits ...int) {
	t.Helper()
	turn(b, bits...)
	s, e := image.Decode(b)
	want := api.Errno(93)
	if slices.Min(bits) < 32 {
		want = 92
	}
	if e != want || s.Seq != 0 || s.Rows != nil {
		t.Fatalf("%d bytes, the bits %v turned: %s, %d", len(b), bits, show(s), e)
	}
	turn(b, bits...)
}

func TestFewBitsTurned(t *testing.T) {
	for _, s := range []api.State{{}, example(), state(top, row("\x00\xff", "", top))} {
		b := form(s)
		for i := range 8 * len(b) {
			told(t, b, i)
			for j := range i {
				told(t, b, i, j)
				for k := range j {
					told(t, b, i, j, k)
				}
			}
		}
	}
}

// runs turns bits within 32 that follow one another from a place on, in some ways.
func runs(t *testing.T, r *rand.Rand, b []byte, at int) {
	t.Helper()
	width := min(32, 8*len(b)-at)
	patterns := []uint32{1, 3, 0xffffffff, 0x80000001, 0xaaaaaaab, 0x82f63b78, 0x05ec76f1, r.Uint32() | 1, r.Uint32() | 1, r.Uint32()&r.Uint32()&r.Uint32() | 1}
	for low := range 64 {
		patterns = append(patterns, uint32(2*low+1))
	}
	for _, p := range patterns {
		var bits []int
		for i := range width {
			if p>>i&1 == 1 {
				bits = append(bits, at+i)
			}
		}
		if len(bits) > 0 {
			told(t, b, bits...)
		}
	}
}

func TestRunsTurned(t *testing.T) {
	r := rand.New(rand.NewSource(99))
	for _, s := range small() {
		b := form(s)
		for at := range 8 * len(b) {
			runs(t, r, b, at)
		}
	}
}

// Of larger images: bits here and there, in the mark, the numbers, the rows and the sum.
func TestLargerTurned(t *testing.T) {
	r := rand.New(rand.NewSource(90))
	for _, s := range samples()[12:] {
		b := form(s)
		last := 8 * len(b)
		near := []int{0, 31, 32, 39, 40, 47, 48, last / 2, last - 33, last - 32, last - 1}
		for _, i := range near {
			told(t, b, i)
			runs(t, r, b, i)
			for _, j := range near {
				if i != j {
					told(t, b, i, j)
				}
			}
		}
		for range 100 {
			i := r.Intn(last - 2)
			j := i + 1 + r.Intn(last-i-2)
			k := j + 1 + r.Intn(last-j-1)
			told(t, b, []int{i, j, k}[:1+r.Intn(3)]...)
		}
	}
}

// An opener tells it, too, at the latest at the end.
func TestOpenerOfTurned(t *testing.T) {
	for _, s := range small()[:12] {
		image0 := form(s)
		for i := range 8 * len(image0) {
			for j := range i + 1 {
				b := bytes.Clone(image0)
				turn(b, i)
				if j < i {
					turn(b, j)
				}
				o := image.New()
				_, first := o.Write(b[:len(b)/2])
				_, second := o.Write(b[len(b)/2:])
				if n, e := o.End(); e == 0 || n != 0 || first != 0 && e != first || second != 0 && e != second {
					t.Fatalf("%x, the bits %d and %d turned: %d, %d, %d, %d", image0, i, j, first, second, n, e)
				}
			}
		}
	}
}
