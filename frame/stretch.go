package frame

import (
	"bytes"

	"hawser/crc"
)

// markBytes: so far apart stand a stretch's marks.
const markBytes = 64

// fewBytes: up to so many bytes are summed sooner than reckoned.
const fewBytes = 512

// stretch is some bytes of a stream, with marks by which the sum of any part
// is reckoned: heads may stand so close that each byte lies within thousands
// of frames, and summing it for each of them would not end for hours.
//
// Bytes come behind the others and never change, so that Splitters may share
// a stretch.
type stretch struct {
	bytes []byte
	marks []uint32 // the sums of the first 0, 1, 2 .. times markBytes bytes
}

// from is a stretch of its own: the bytes from a place up to another one.
func (t *stretch) from(at, end int) *stretch {
	return &stretch{bytes: bytes.Clone(t.bytes[at:end])}
}

// holds says whether the bytes from a place up to another one end with the sum
// of those ahead, the lowest byte first.
func (t *stretch) holds(at, end int) bool {
	last := end - sumBytes
	b := t.bytes[last:end]
	return t.sum(at, last) == uint32(b[0])|uint32(b[1])<<8|uint32(b[2])<<16|uint32(b[3])<<24
}

// sum is the sum of the bytes from a place up to another one.
func (t *stretch) sum(at, end int) uint32 {
	if end-at <= fewBytes {
		return crc.Sum(t.bytes[at:end])
	}
	// The sum up to end is Join's of what stands ahead of at and of the part:
	// exclusive-ored with the first once more it is the part's.
	c, _ := crc.Join(t.ahead(at), t.ahead(end), end-at)
	return c
}

// ahead is the sum of all bytes ahead of a place.
func (t *stretch) ahead(end int) uint32 {
	last := end / markBytes
	if len(t.marks) == 0 {
		t.marks = append(t.marks, crc.Sum())
	}
	for i := len(t.marks); i <= last; i++ {
		t.marks = append(t.marks, crc.More(t.marks[i-1], t.bytes[(i-1)*markBytes:i*markBytes]))
	}
	return crc.More(t.marks[last], t.bytes[last*markBytes:end])
}
