package pack

import (
	"slices"

	"hawser/api"
	"hawser/leb"
)

// partBytes: so many bytes are gathered in a Writer itself ahead of going into
// a block, so that short records need none.
const partBytes = 256

// block is bytes that never change any more, behind those of the block ahead.
type block struct {
	ahead *block
	bytes []byte
}

// Writer lays things down, one behind the other. A copy of one goes on by
// itself: what both of them reach is blocks alone.
type Writer struct {
	trouble
	done *block
	part [partBytes]byte
	used int // of part
	size int
}

// Uint lays a number down.
func (w *Writer) Uint(v uint64) {
	if w.ready() {
		w.lay(leb.Encode(v))
	}
}

// Int lays a number from 0 to most down.
func (w *Writer) Int(v, most int) {
	if !w.ready() {
		return
	}
	w.must(v >= 0 && most >= 0, api.ErrArg)
	if w.must(v <= most, api.ErrPackLong) {
		w.Uint(uint64(v))
	}
}

// Text lays a text of at most so many bytes down.
func (w *Writer) Text(s string, most int) {
	if !w.ready() {
		return
	}
	w.must(most >= 0, api.ErrArg)
	if w.must(len(s) <= most, api.ErrPackLong) {
		w.Uint(uint64(len(s)))
		w.lay([]byte(s))
	}
}

// Flag lays a yes or no down.
func (w *Writer) Flag(f bool) {
	if !w.ready() {
		return
	}
	if f {
		w.lay([]byte{1})
	} else {
		w.lay([]byte{0})
	}
}

// Digest lays a digest down.
func (w *Writer) Digest(d api.Digest) {
	if w.ready() {
		w.lay(d[:])
	}
}

// Row lays a row down.
func (w *Writer) Row(r api.Row) {
	if !w.ready() {
		return
	}
	w.must(r.Key != "" && r.Version >= 1, api.ErrPackForm)
	short := len(r.Key) <= api.MaxKey && len(r.Value) <= api.MaxValue
	if w.must(short && r.Version <= api.MaxSeq, api.ErrPackLong) {
		w.Text(r.Key, api.MaxKey)
		w.Text(r.Value, api.MaxValue)
		w.Int(r.Version, api.MaxSeq)
	}
}

// Fail makes the writer fail, as if it had met an error.
func (w *Writer) Fail(e api.Errno) {
	if w != nil {
		w.fail(e)
	}
}

// Size answers how many bytes were laid down.
func (w *Writer) Size() int {
	if w == nil {
		return 0
	}
	return w.size
}

// Bytes answers all that was laid down, if nothing went wrong.
func (w *Writer) Bytes() ([]byte, api.Errno) {
	if w == nil {
		return nil, api.ErrMade
	}
	if !w.well() {
		return nil, w.first
	}
	b := make([]byte, w.size)
	at := w.size - w.used
	copy(b[at:], w.part[:w.used])
	for p := w.done; p != nil; p = p.ahead {
		at -= len(p.bytes)
		copy(b[at:], p.bytes)
	}
	return b, api.OK
}

// ready says whether anything may be laid down.
func (w *Writer) ready() bool { return w != nil && w.well() }

// lay puts bytes behind all others.
func (w *Writer) lay(p []byte) {
	w.size += len(p)
	if w.used+len(p) <= partBytes {
		w.used += copy(w.part[w.used:], p)
		return
	}
	w.done = &block{w.done, slices.Concat(w.part[:w.used], p)}
	w.used = 0
}
