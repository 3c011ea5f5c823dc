// Package leb is layer 1: numbers as bytes, each in its shortest form alone (doc/01-leb.md).
package leb

import (
	"bytes"
	"iter"
	"math/bits"

	"hawser/api"
)

const (
	groupBits = 7
	more      = 1 << groupBits // set in every byte but a number's last
	maxBytes  = 10             // a number of 64 bits has no more groups
	maxTenth  = 1              // nine groups hold 63 bits, so one bit is left
)

// Encode answers the bytes of the numbers, one behind the other.
func Encode(l ...uint64) []byte {
	b := make([]byte, 0, Size(l...))
	for _, v := range l {
		for ; v >= more; v >>= groupBits {
			b = append(b, byte(v)|more)
		}
		b = append(b, byte(v))
	}
	return b
}

// Size answers how many bytes Encode gives.
func Size(l ...uint64) int {
	n := 0
	for _, v := range l {
		// 0 has no bit that is 1, and has one group all the same.
		n += (bits.Len64(v|1) + groupBits - 1) / groupBits
	}
	return n
}

// Decode answers the number that b begins with, and how many bytes it has.
func Decode(b []byte) (uint64, int, api.Errno) {
	var v uint64
	for i, c := range b[:min(len(b), maxBytes)] {
		v |= uint64(c%more) << (groupBits * i)
		switch {
		case c >= more:
			continue
		case i == maxBytes-1 && c > maxTenth:
			return 0, 0, api.ErrLebLong
		case i > 0 && c == 0:
			return 0, 0, api.ErrLebForm
		}
		return v, i + 1, api.OK
	}
	if len(b) < maxBytes {
		return 0, 0, api.ErrLebShort
	}
	return 0, 0, api.ErrLebLong
}

// All tells the places and numbers of b, up to its end or to what is no number.
func All(b []byte) iter.Seq2[int, uint64] {
	// The caller may change b before the answer is gone over.
	return walk(bytes.Clone(b))
}

// walk is All over bytes that nobody changes meanwhile: one who has done with
// them when it answers needs no copy.
func walk(b []byte) iter.Seq2[int, uint64] {
	return func(yield func(int, uint64) bool) {
		for at := 0; at < len(b); {
			v, n, e := Decode(b[at:])
			if e != api.OK || !yield(at, v) {
				return
			}
			at += n
		}
	}
}

// Zig folds a number with a sign into one without.
func Zig(v int) uint64 {
	if v >= 0 {
		return 2 * uint64(v)
	}
	// -2v - 1, by way of v + 1: the least int has no counterpart above 0.
	return 2*uint64(-(v+1)) + 1
}

// Zag undoes Zig.
func Zag(u uint64) int {
	half := int(u / 2)
	if u%2 == 0 {
		return half
	}
	return -half - 1
}

// Skip answers the place behind the first n numbers of b.
func Skip(b []byte, n int) (int, api.Errno) {
	if n < 0 {
		return 0, api.ErrArg
	}
	end, left := 0, n
	for at, v := range walk(b) {
		if left == 0 {
			break
		}
		// A number has its shortest form alone, so its size tells where it ends.
		end = at + Size(v)
		left--
	}
	if left == 0 {
		return end, api.OK
	}
	_, _, e := Decode(b[end:])
	return 0, e
}
