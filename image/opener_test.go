package image_test

import (
	"bytes"
	"math/rand"
	"slices"
	"strings"
	"testing"

	"hawser/api"
	"hawser/image"
)

// P9.5 and P9.7

// evenly are the places at which bytes are cut into pieces of so many.
func evenly(length, piece int) []int {
	var l []int
	for at := piece; at < length; at += piece {
		l = append(l, at)
	}
	return l
}

// writes asks for one Write, and holds it against what is to be answered.
func writes(t *testing.T, o *image.Opener, b []byte, rows []api.Row, err api.Errno) {
	t.Helper()
	got, e := o.Write(b)
	if e != err || !slices.Equal(got, rows) {
		t.Fatalf("Write(%.40x, of %d): %s, %d, want %s, %d", b, len(b), show(api.State{Rows: got}), e, show(api.State{Rows: rows}), err)
	}
}

func ends(t *testing.T, o *image.Opener, seq int, err api.Errno) {
	t.Helper()
	if n, e := o.End(); n != seq || e != err {
		t.Fatalf("End: %d, %d, want %d, %d", n, e, seq, err)
	}
}

// over: behind End every Write answers the same, and End answers what it did.
func over(t *testing.T, o *image.Opener, seq int, err api.Errno) {
	t.Helper()
	shut := err
	if err == 0 {
		shut = 92
	}
	for _, b := range [][]byte{nil, {}, {0}, []byte("hwi1"), form(example())} {
		writes(t, o, b, nil, shut)
		ends(t, o, seq, err)
	}
}

// opens has an opener read bytes that are cut at these places, and holds each answer against the chapter's words.
func opens(t *testing.T, b []byte, cuts []int) {
	t.Helper()
	o := image.New()
	told, at := 0, 0
	var shut api.Errno
	for _, cut := range append(slices.Clone(cuts), len(b)) {
		if shut != 0 {
			writes(t, o, b[at:cut], nil, shut)
			at = cut
			continue
		}
		h := hear(b[:cut])
		writes(t, o, b[at:cut], h.rows[told:], h.err)
		told, at, shut = len(h.rows), cut, h.err
	}
	endsAs(t, o, b, shut)
}

// endsAs holds End against the chapter's words, and against what Decode answers of all bytes.
func endsAs(t *testing.T, o *image.Opener, b []byte, shut api.Errno) {
	t.Helper()
	h := hear(b)
	if h.err != shut {
		t.Fatalf("%.40x, of %d: %d, and at once %d", b, len(b), shut, h.err)
	}
	if shut == 0 && !h.done {
		shut = 92
	}
	if shut != 0 {
		h.seq = 0
	}
	ends(t, o, h.seq, shut)
	ends(t, o, h.seq, shut)
	over(t, o, h.seq, shut)
	if s, e := image.Decode(b); (e == 0) != (shut == 0) || e == 0 && (s.Seq != h.seq || !slices.Equal(s.Rows, h.rows)) {
		t.Fatalf("%.40x, of %d: Decode answers %s, %d, and End %d", b, len(b), show(s), e, shut)
	}
}

func TestOpenerExample(t *testing.T) {
	b := form(example())
	o := image.New()
	writes(t, o, b[:2], nil, 0)
	writes(t, o, b[2:9], nil, 0)
	writes(t, o, b[9:11], example().Rows, 0)
	writes(t, o, b[11:], nil, 0)
	ends(t, o, 7, 0)
	over(t, o, 7, 0)
	o = image.New()
	writes(t, o, []byte("hx"), nil, 92)
	ends(t, o, 0, 92)
	over(t, o, 0, 92)
}

// The stream ends too early: at each of its places.
func TestEndEarly(t *testing.T) {
	for _, s := range small() {
		b := form(s)
		for n := range b {
			o := image.New()
			writes(t, o, b[:n], hear(b[:n]).rows, 0)
			ends(t, o, 0, 92)
			over(t, o, 0, 92)
			writes(t, o, b[n:], nil, 92)
		}
	}
	o := image.New()
	ends(t, o, 0, 92)
	over(t, o, 0, 92)
}

// pieces are ways to cut so many bytes.
func pieces(length int) [][]int {
	l := [][]int{nil, {0, 0, length, length}, evenly(length, 1), evenly(length, 2), evenly(length, 3), evenly(length, 5), evenly(length, 7)}
	for cut := range length + 1 {
		l = append(l, []int{cut}, []int{cut, cut}, []int{cut, min(cut+1, length)}, []int{max(cut-3, 0), cut, cut})
	}
	twice := slices.Concat(evenly(length, 1), evenly(length, 1))
	slices.Sort(twice)
	return append(l, twice)
}

func TestPieces(t *testing.T) {
	for _, s := range small()[:12] {
		b := form(s)
		for _, cuts := range pieces(len(b)) {
			opens(t, b, cuts)
			opens(t, slices.Concat(b, []byte{0}), cuts)
			opens(t, slices.Concat(b, b), cuts)
			opens(t, b[:len(b)-1], append(slices.DeleteFunc(slices.Clone(cuts), func(c int) bool { return c >= len(b) }), len(b)-1))
		}
	}
}

// Each byte another one, one more, one less: with the sum as it was, and with a right one; in pieces.
func TestPiecesOfWrong(t *testing.T) {
	r := rand.New(rand.NewSource(95))
	seen := map[api.Errno]int{}
	all := func(b []byte) {
		t.Helper()
		for _, x := range [][]byte{b, sealed(string(b[:len(b)-4]))} {
			seen[hear(x).err]++
			opens(t, x, nil)
			opens(t, x, evenly(len(x), 1))
			opens(t, x, randomly(r, len(x)))
		}
	}
	for _, s := range small()[7:12] {
		b := form(s)
		for i := range b {
			for _, c := range []byte{0, 1, 2, 4, 5, 'k', 'l', 127, 128, 129, 255, b[i] + 1, b[i] - 1, b[i] ^ 128} {
				other := bytes.Clone(b)
				other[i] = c
				all(other)
				all(slices.Insert(bytes.Clone(b), i, c))
			}
			all(slices.Delete(bytes.Clone(b), i, i+1))
		}
	}
	if seen[0] < 100 || seen[92] < 100 || seen[93] < 100 {
		t.Errorf("%v", seen)
	}
}

// randomly are places at which bytes are cut, the same one more than once among them.
func randomly(r *rand.Rand, length int) []int {
	l := make([]int, r.Intn(9))
	for i := range l {
		l[i] = r.Intn(length + 1)
	}
	slices.Sort(l)
	return l
}

func TestPiecesOfAnything(t *testing.T) {
	r := rand.New(rand.NewSource(97))
	for range 1500 {
		b := form(anything(r))
		opens(t, b, nil)
		opens(t, b, randomly(r, len(b)))
		opens(t, b, evenly(len(b), 1+r.Intn(300)+len(b)/50))
		b[r.Intn(len(b))] ^= 1 << r.Intn(8)
		opens(t, b, randomly(r, len(b)))
		b = sealed(string(b[:len(b)-4]))
		opens(t, b, randomly(r, len(b)))
	}
	for range 30000 {
		b := make([]byte, r.Intn(20))
		for i := range b {
			b[i] = byte(r.Intn(5))
		}
		b = sealed("hwi1" + string(b))
		opens(t, b, randomly(r, len(b)))
		r.Read(b[4:])
		opens(t, b, randomly(r, len(b)))
	}
}

// At which byte a part is told to be none: as soon as its reader can tell, and not ahead of that.
func TestWrongAsSoonAsTold(t *testing.T) {
	for _, c := range []struct {
		why   string
		bytes string
		at    int // the stream is wrong by so many bytes
		err   api.Errno
	}{
		{"another first byte", "xwi1", 1, 92},
		{"another last byte of the mark", "hwi2", 4, 92},
		{"a high byte in the mark", "hw\x80", 3, 92},
		{"Seq too long", "hwi1\x80\x00\x00", 6, 92},
		{"Seq above MaxSeq", "hwi1\x81\x80\x80\x80\x80\x80\x80\x80\x10\x00", 13, 92},
		{"Seq above 64 bits", "hwi1" + strings.Repeat("\xff", 12), 14, 92},
		{"a count that is too long", "hwi1\x07\x81\x00\x00", 7, 92},
		{"a count above MaxRows", "hwi1\x07\x81\x80\x40\x00", 8, 92},
		{"a key's length above MaxKey", "hwi1\x07\x01\x81\x08kkkkkkk", 8, 92},
		{"a key's length that is too long", "hwi1\x07\x01\x81\x00kkkkkkk", 8, 92},
		{"a value's length above MaxValue", "hwi1\x07\x01\x01k\x81\x80\x04vvvv", 11, 92},
		{"an empty key, told of the whole row", "hwi1\x07\x01\x00\x01v\x05\x00", 10, 92},
		{"an empty key, and a value's length that is none", "hwi1\x07\x01\x00\x81\x00v\x05", 9, 92},
		{"an empty key, and a version that is too long", "hwi1\x07\x01\x00\x01v\x85\x00", 11, 92},
		{"a version of 0", "hwi1\x07\x01\x01k\x01v\x00\x00", 11, 92},
		{"a version above Seq", "hwi1\x07\x01\x01k\x01v\x08\x00", 11, 92},
		{"a version above MaxSeq", "hwi1\x80\x80\x80\x80\x80\x80\x80\x80\x10\x01\x01k\x01v\x81\x80\x80\x80\x80\x80\x80\x80\x10\x00", 27, 92},
		{"a version above 64 bits", "hwi1\x07\x01\x01k\x01v" + strings.Repeat("\xff", 12), 20, 92},
		{"the same key twice", "hwi1\x07\x02\x01k\x01v\x05\x01k\x01v\x05\x00", 16, 92},
		{"a lesser key", "hwi1\x07\x03\x01k\x01v\x05\x01j\x01v\x05\x00", 16, 92},
		{"another sum", "hwi1\x00\x00\x4f\x0f\x54\xd5", 10, 93},
		{"another sum, in its first byte", "hwi1\x00\x00\x4e\x0f\x54\xd4", 10, 93},
		{"another sum, and a byte behind it", "hwi1\x00\x00\x4e\x0f\x54\xd4\x00", 10, 93},
		{"a byte behind the sum", "hwi1\x00\x00\x4f\x0f\x54\xd4\x00", 11, 92},
	} {
		b := []byte(c.bytes)
		if e := hear(b[:c.at-1]).err; e != 0 {
			t.Errorf("%s: too early", c.why)
		}
		for i := range b {
			want := api.Errno(0)
			if i+1 >= c.at {
				want = c.err
			}
			if _, e := afterAll(b[:i+1], 1).Write(nil); e != want {
				t.Errorf("%s: behind %d bytes, one by one: %d, want %d", c.why, i+1, e, want)
			}
			if _, e := image.New().Write(b[:i+1]); e != want {
				t.Errorf("%s: behind %d bytes: %d, want %d", c.why, i+1, e, want)
			}
		}
		opens(t, b, evenly(len(b), 1))
		opens(t, b, nil)
	}
}

// afterAll is an opener that was handed bytes in pieces of so many.
func afterAll(b []byte, piece int) *image.Opener {
	o := image.New()
	for p := range slices.Chunk(b, piece) {
		o.Write(p)
	}
	return o
}

// The rows that were whole ahead of the wrong part are told beside the error, and never again.
func TestRowsBesideAnError(t *testing.T) {
	s := state(9, many(6)...)
	for i := range 6 {
		for _, spoil := range []func(*api.Row){
			func(r *api.Row) { r.Version = 10 }, func(r *api.Row) { r.Version = 0 }, func(r *api.Row) { r.Key = "" },
			func(r *api.Row) { r.Key = long(1025) }, func(r *api.Row) { r.Value = long(65537) }, func(r *api.Row) { r.Key = "a" },
		} {
			bad := state(9, slices.Clone(s.Rows)...)
			spoil(&bad.Rows[i])
			b := form(bad)
			want := s.Rows[:i]
			if bad.Rows[i].Key == "a" && i == 0 {
				continue
			}
			o := image.New()
			writes(t, o, b, want, 92)
			writes(t, o, b, nil, 92)
			ends(t, o, 0, 92)
			opens(t, b, []int{20})
			opens(t, b, []int{len(b) - 20})
		}
	}
	b := form(s)
	b[len(b)-1] ^= 1
	o := image.New()
	writes(t, o, b, s.Rows, 93)
	over(t, o, 0, 93)
	o = image.New()
	writes(t, o, append(form(s), 0), s.Rows, 92)
	over(t, o, 0, 92)
}

// Each row of an image comes with its last byte, however long the pieces are.
func TestRowsComeInTime(t *testing.T) {
	for _, s := range samples() {
		b := form(s)
		for _, piece := range []int{1, 2, 3, 100, 1023, 4096, 65536, 70000, len(b)} {
			timely(t, s, b, piece)
		}
	}
}

// timely has an opener read an image in pieces of so many bytes.
func timely(t *testing.T, s api.State, b []byte, piece int) {
	t.Helper()
	o := image.New()
	at, told := 0, 0
	end := 4 + len(number(s.Seq)) + len(number(len(s.Rows))) // of the rows that are told
	for p := range slices.Chunk(b, piece) {
		at += len(p)
		var want []api.Row
		for told < len(s.Rows) && end+rowSize(s.Rows[told]) <= at {
			end += rowSize(s.Rows[told])
			want = append(want, s.Rows[told])
			told++
		}
		writes(t, o, p, want, 0)
	}
	ends(t, o, s.Seq, 0)
	over(t, o, s.Seq, 0)
}

// Long rows among short ones, in pieces that are cut in the midst of each part.
func TestLongRowsInPieces(t *testing.T) {
	s := state(300, row("a", "", 1), row("b", long(65536), 2), row("c"+long(1023), long(300), 300), row("d", "", 4), row("e", long(5000), 128), row("f", "x", 6))
	b := form(s)
	r := rand.New(rand.NewSource(98))
	for _, at := range append(heads(s), len(b)-4, len(b)) {
		for d := -3; d <= 3; d++ {
			cut := min(max(at+d, 0), len(b))
			opens(t, b, []int{cut})
			opens(t, b, []int{cut, cut, min(cut+1, len(b))})
		}
	}
	for range 200 {
		opens(t, b, randomly(r, len(b)))
	}
	for _, piece := range []int{999, 1000, 10000, 33333} {
		opens(t, b, evenly(len(b), piece))
	}
	for piece := 1; piece < 50; piece += 6 {
		timely(t, s, b, piece)
	}
	var fewer []int // pieces of ever fewer bytes
	for at, n := 365, 364; at < len(b); at, n = at+n, max(1, n-1) {
		fewer = append(fewer, at)
	}
	opens(t, b, fewer[:360])
}
