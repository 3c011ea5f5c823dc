package pack

import (
	"bytes"

	"hawser/api"
	"hawser/leb"
)

// Reader takes things up, one behind the other.
type Reader struct {
	trouble
	made  bool // no bytes are bytes too, so these do not tell
	given []byte
	at    int
}

// NewReader answers a reader of these bytes.
func NewReader(b []byte) *Reader {
	// The caller may change b before all is taken up.
	return over(bytes.Clone(b))
}

// over is NewReader of bytes that nobody changes meanwhile: one who has done
// with them when it answers needs no copy.
func over(b []byte) *Reader { return &Reader{made: true, given: b} }

// Uint takes a number up.
func (r *Reader) Uint() uint64 {
	if !r.ready() {
		return 0
	}
	v, n, e := leb.Decode(r.given[r.at:])
	r.fail(named(e))
	r.at += n
	return v
}

// Int takes a number from 0 to most up.
func (r *Reader) Int(most int) int {
	if !r.ready() || !r.must(most >= 0, api.ErrArg) {
		return 0
	}
	from := r.at
	v := r.Uint()
	if !r.must(v <= uint64(most), api.ErrPackLong) {
		r.at = from
		return 0
	}
	return int(v)
}

// Text takes a text of at most so many bytes up.
func (r *Reader) Text(most int) string {
	if !r.ready() {
		return ""
	}
	from := r.at
	s := string(r.take(r.Int(most)))
	if !r.well() {
		r.at = from
	}
	return s
}

// Flag takes a yes or no up.
func (r *Reader) Flag() bool {
	if !r.ready() || !r.must(r.Left() > 0, api.ErrPackShort) {
		return false
	}
	c := r.given[r.at]
	if !r.must(c <= 1, api.ErrPackForm) {
		return false
	}
	r.at++
	return c == 1
}

// Digest takes a digest up.
func (r *Reader) Digest() api.Digest {
	var d api.Digest
	if r.ready() {
		copy(d[:], r.take(len(d)))
	}
	return d
}

// Row takes a row up.
func (r *Reader) Row() api.Row {
	if !r.ready() {
		return api.Row{}
	}
	from := r.at
	key := r.Text(api.MaxKey)
	value := r.Text(api.MaxValue)
	version := r.Int(api.MaxSeq)
	if !r.must(key != "" && version != 0, api.ErrPackForm) {
		r.at = from
		return api.Row{}
	}
	return api.Row{Key: key, Value: value, Version: version}
}

// Count takes up how many things come, each of which has so many bytes at least.
func (r *Reader) Count(most, least int) int {
	if !r.ready() || !r.must(most >= 0 && least >= 0, api.ErrArg) {
		return 0
	}
	from := r.at
	n := r.Int(most)
	// Not n times least, which may be more than an int holds.
	if !r.must(least == 0 || n <= r.Left()/least, api.ErrPackShort) {
		r.at = from
		return 0
	}
	return n
}

// Fail makes the reader fail, as if it had met an error.
func (r *Reader) Fail(e api.Errno) {
	if r.ready() {
		r.fail(e)
	}
}

// At answers how many bytes were taken up.
func (r *Reader) At() int {
	if r == nil {
		return 0
	}
	return r.at
}

// Left answers how many bytes are left.
func (r *Reader) Left() int {
	if r == nil {
		return 0
	}
	return len(r.given) - r.at
}

// Err answers the first error, OK if there is none.
func (r *Reader) Err() api.Errno {
	if r == nil || !r.made {
		return api.ErrMade
	}
	return r.first
}

// End answers the first error, or ErrPackTail if bytes are left.
func (r *Reader) End() api.Errno {
	if e := r.Err(); e != api.OK {
		return e
	}
	if r.Left() > 0 {
		return api.ErrPackTail
	}
	return api.OK
}

// ready says whether anything may be taken up.
func (r *Reader) ready() bool { return r.Err() == api.OK }

// take goes n bytes on, and answers these, where they lie.
func (r *Reader) take(n int) []byte {
	if !r.must(n <= r.Left(), api.ErrPackShort) {
		return nil
	}
	p := r.given[r.at : r.at+n]
	r.at += n
	return p
}

// named is an error of leb as this layer names it.
func named(e api.Errno) api.Errno {
	switch e {
	case api.ErrLebShort:
		return api.ErrPackShort
	case api.ErrLebLong:
		return api.ErrPackLong
	case api.ErrLebForm:
		return api.ErrPackForm
	}
	return e
}
