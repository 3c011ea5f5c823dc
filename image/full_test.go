package image_test

import (
	"encoding/binary"
	"fmt"
	"hash/crc32"
	"math"
	"slices"
	"strings"
	"testing"

	"hawser/api"
	"hawser/image"
)

// The limits: MaxRows rows, MaxImage bytes. Rows share their values, so that only images are large.

func TestMostRows(t *testing.T) {
	s := state(maxRows, many(maxRows)...)
	if n, e := image.Size(s); e != 0 || n != sizeOf(s) || image.Check(s) != 0 {
		t.Fatalf("Size: %d, %d", n, e)
	}
	b, e := image.Encode(s)
	if e != 0 || len(b) != sizeOf(s) || image.Room(b) != maxRows {
		t.Fatalf("Encode: %d bytes, %d", len(b), e)
	}
	if got, e := image.Decode(b); e != 0 || !same(got, s) {
		t.Fatalf("Decode: %s, %d", show(got), e)
	}
	o := image.New()
	var rows []api.Row
	for p := range slices.Chunk(b, 100001) {
		l, e := o.Write(p)
		if rows = append(rows, l...); e != 0 {
			t.Fatalf("Write: %d", e)
		}
	}
	if ends(t, o, maxRows, 0); !slices.Equal(rows, s.Rows) {
		t.Fatalf("Write: %s", show(api.State{Rows: rows}))
	}
	s.Rows[maxRows-1].Version++
	if e := image.Check(s); e != 91 {
		t.Errorf("a last row that may not be: %d", e)
	}
}

func TestTooManyRows(t *testing.T) {
	s := state(1<<21, many(maxRows+1)...)
	tooMany := func(why string) {
		t.Helper()
		n, e := image.Size(s)
		b, err := image.Encode(s)
		if image.Check(s) != 90 || e != 90 || n != 0 || err != 90 || b != nil {
			t.Errorf("%s: %d, %d, %d", why, image.Check(s), e, err)
		}
	}
	tooMany("a row too many")
	b := form(s)
	refused(t, "a row too many", b, 92)
	if seq, n, e := image.Peek(b); seq != 0 || n != 0 || e != 92 || image.Room(b) != 0 {
		t.Errorf("Peek: %d, %d, %d", seq, n, e)
	}
	writes(t, image.New(), b, nil, 92)
	s.Rows[0].Key, s.Rows[5].Version = "", 0
	tooMany("rows that may not be")
	for _, seq := range []int{-1, top + 1, math.MinInt, math.MaxInt} {
		s.Seq = seq
		tooMany("a Seq that may not be")
	}
}

// filled is a state whose image has so many bytes: all values but the last one are of the greatest length.
func filled(size int) api.State {
	value := strings.Repeat("v", 65536)
	s := state(1)
	left := size - 11 // the mark, Seq, a count of two bytes, the sum
	for i := 0; left > 0; i++ {
		x := row(fmt.Sprintf("k%07d", i), value, 1)
		for heads := 11; rowSize(x) > left; heads++ { // all but the value: its length may have one to three bytes
			x.Value = value[:left-heads]
		}
		left -= rowSize(x)
		s.Rows = append(s.Rows, x)
	}
	return s
}

func TestMostBytes(t *testing.T) {
	s := filled(maxImage)
	if n, e := image.Size(s); n != maxImage || e != 0 || sizeOf(s) != maxImage {
		t.Fatalf("Size: %d, %d", n, e)
	}
	b, e := image.Encode(s)
	if e != 0 || len(b) != maxImage {
		t.Fatalf("Encode: %d bytes, %d", len(b), e)
	}
	if got, e := image.Decode(b); e != 0 || !same(got, s) {
		t.Fatalf("Decode: %s, %d", show(got), e)
	}
	atTheEnd(t, s, b)
	b = append(b, 0)
	if got, e := image.Decode(b); e != 90 || !same(got, api.State{}) {
		t.Errorf("Decode of a byte more: %d", e)
	}
	b[0], b[5], b[maxImage-1] = 'x', 200, 0
	if got, e := image.Decode(b); e != 90 || !same(got, api.State{}) {
		t.Errorf("Decode of many faults: %d", e)
	}
}

func TestTooManyBytes(t *testing.T) {
	tooLarge := func(why string, s api.State, want api.Errno) {
		t.Helper()
		n, e := image.Size(s)
		b, err := image.Encode(s)
		if image.Check(s) != want || e != want || n != 0 || err != want || b != nil || fault(s) != want {
			t.Errorf("%s: %d, %d, %d", why, image.Check(s), e, err)
		}
	}
	for _, more := range []int{1, 2, 1000, 70000, 1 << 20, 1 << 26} {
		tooLarge("too many bytes", filled(maxImage+more), 90)
	}
	s := filled(maxImage)
	s.Seq = 128
	tooLarge("a Seq of a byte more", s, 90)
	s = filled(maxImage)
	s.Seq = 127
	if image.Check(s) != 0 {
		t.Error("a Seq of a byte")
	}
	s.Rows[3].Value += "v"
	tooLarge("a value that is too long, as is the image", s, 91)
	s = filled(maxImage + 1)
	s.Rows[len(s.Rows)-1].Version = 2
	tooLarge("a last row that may not be, and too many bytes", s, 91)
	s = filled(maxImage + 1)
	s.Seq = -1
	tooLarge("a Seq that may not be, and too many bytes", s, 91)
	value := long(65536)
	s = state(maxRows, many(maxRows)...) // 2^36 bytes: more than anything could hold
	for i := range s.Rows {
		s.Rows[i].Value = value
	}
	tooLarge("the most rows with the longest values", s, 90)
	s.Rows = append(s.Rows, row("z", "", 0))
	tooLarge("a row more", s, 90)
}

// atTheEnd: an opener has read all of an image of MaxImage bytes but the last row and the sum; copies of it, which go
// on by themselves, are handed these in many ways.
func atTheEnd(t *testing.T, s api.State, b []byte) {
	t.Helper()
	last := s.Rows[len(s.Rows)-1]
	at := len(b) - 4 - rowSize(last)
	o := image.New()
	rows := 0
	for p := range slices.Chunk(b[:at], 1<<22+1) {
		l, e := o.Write(p)
		if rows += len(l); e != 0 {
			t.Fatalf("Write: %d", e)
		}
	}
	if rows != len(s.Rows)-1 {
		t.Fatalf("%d rows", rows)
	}
	goesOn := func(seq int, end api.Errno, steps ...step) {
		t.Helper()
		x := *o
		for _, c := range steps {
			writes(t, &x, c.bytes, c.rows, c.err)
		}
		ends(t, &x, seq, end)
		over(t, &x, seq, end)
	}
	tail, sum := b[at:len(b)-4], b[len(b)-4:]
	all := []api.Row{last}
	rest := slices.Concat(tail, sum)
	goesOn(1, 0, step{rest, all, 0})
	goesOn(1, 0, step{rest[:9], nil, 0}, step{rest[9:], all, 0}, step{nil, nil, 0})
	goesOn(0, 90, step{rest, all, 0}, step{nil, nil, 0}, step{[]byte{0}, nil, 90}, step{nil, nil, 90})
	goesOn(0, 90, step{append(slices.Clone(rest), 0), all, 90}, step{rest, nil, 90})
	goesOn(0, 90, step{slices.Concat(rest, b[:1<<20]), all, 90})
	goesOn(0, 92, step{tail, all, 0}, step{sum[:3], nil, 0})

	wrong := slices.Clone(rest)
	wrong[len(wrong)-1] ^= 1
	goesOn(0, 93, step{wrong, all, 93})
	goesOn(0, 93, step{slices.Concat(wrong, rest), all, 93})

	none := slices.Clone(rest)
	none[len(tail)-1] = 2 // a version above Seq
	goesOn(0, 92, step{slices.Concat(none, rest), nil, 92})

	// A row of a byte less leaves room for a byte behind the sum, which is wrong whatever comes behind it.
	less := row(last.Key, last.Value[1:], 1)
	short := []byte(rowForm(less))
	short = binary.LittleEndian.AppendUint32(short, crc32.Update(crc32.Checksum(b[:at], castagnoli), castagnoli, short))
	goesOn(1, 0, step{short, []api.Row{less}, 0})
	goesOn(0, 92, step{slices.Concat(short, []byte{0}), []api.Row{less}, 92})
	goesOn(0, 92, step{slices.Concat(short, []byte{0, 0, 0}), []api.Row{less}, 92})

	// A row of some bytes more: its sum, or its own end, lies behind the bytes that may be.
	for more := 1; more < 7; more++ {
		greater := row(last.Key, last.Value+long(more), 1)
		behind := []byte(rowForm(greater) + "sum!")
		var told []api.Row
		if more <= 4 {
			told = []api.Row{greater}
		}
		goesOn(0, 90, step{behind, told, 90})
		goesOn(0, 90, step{behind[:100], nil, 0}, step{behind[100:], told, 90})
		goesOn(0, 92, step{behind[:len(rest)], told, 0})
		goesOn(0, 90, step{behind[:len(rest)], told, 0}, step{behind[len(rest):], nil, 90})
	}
}

// step is bytes that are written, and what is to be answered.
type step struct {
	bytes []byte
	rows  []api.Row
	err   api.Errno
}

// P9.8 at its bound.
func TestTurnedAtTheBound(t *testing.T) {
	b, e := image.Encode(filled(1 << 27))
	if e != 0 || len(b) != 1<<27 {
		t.Fatalf("Encode: %d bytes, %d", len(b), e)
	}
	told(t, b, 32, 1<<29, 1<<30-1)
	told(t, b, 100, 101, 110, 120, 131)
}
