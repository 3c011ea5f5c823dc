package pack_test

import (
	"bytes"
	"math"
	"math/rand"
	"strings"
	"testing"

	"hawser/api"
	"hawser/leb"
	"hawser/pack"
)

// kind: what a call lays down, and takes up.
type kind int

const (
	aUint kind = iota
	anInt
	aText
	aFlag
	aDigest
	aRow
	aCount
	kinds
)

// ask: a call of a Reader, or of a Writer, without the thing itself.
type ask struct {
	kind        kind
	most, least int
}

// thing: what one call lays down or takes up; only its kind's field is used.
type thing struct {
	u   uint64
	v   int
	s   string
	f   bool
	d   api.Digest
	row api.Row
}

// lay calls a Writer; a Reader's Count takes up what a Writer's Int laid down.
func lay(w *pack.Writer, a ask, x thing) {
	switch a.kind {
	case aUint:
		w.Uint(x.u)
	case anInt, aCount:
		w.Int(x.v, a.most)
	case aText:
		w.Text(x.s, a.most)
	case aFlag:
		w.Flag(x.f)
	case aDigest:
		w.Digest(x.d)
	case aRow:
		w.Row(x.row)
	}
}

// take calls a Reader.
func take(r *pack.Reader, a ask) (x thing) {
	switch a.kind {
	case aUint:
		x.u = r.Uint()
	case anInt:
		x.v = r.Int(a.most)
	case aText:
		x.s = r.Text(a.most)
	case aFlag:
		x.f = r.Flag()
	case aDigest:
		x.d = r.Digest()
	case aRow:
		x.row = r.Row()
	case aCount:
		x.v = r.Count(a.most, a.least)
	}
	return x
}

func textBytes(s string) []byte { return append(leb.Encode(uint64(len(s))), s...) }

// layByWords is P3.1 word by word: the bytes of one call, or its error.
func layByWords(a ask, x thing) ([]byte, api.Errno) {
	switch a.kind {
	case aUint:
		return leb.Encode(x.u), api.OK
	case anInt, aCount:
		if x.v < 0 || a.most < 0 {
			return nil, api.ErrArg
		}
		if x.v > a.most {
			return nil, api.ErrPackLong
		}
		return leb.Encode(uint64(x.v)), api.OK
	case aText:
		if a.most < 0 {
			return nil, api.ErrArg
		}
		if len(x.s) > a.most {
			return nil, api.ErrPackLong
		}
		return textBytes(x.s), api.OK
	case aFlag:
		if x.f {
			return []byte{1}, api.OK
		}
		return []byte{0}, api.OK
	case aDigest:
		return x.d[:], api.OK
	}
	r := x.row
	if r.Key == "" || r.Version < 1 {
		return nil, api.ErrPackForm
	}
	if len(r.Key) > 1024 || len(r.Value) > 65536 || r.Version > 1<<60 {
		return nil, api.ErrPackLong
	}
	b := append(textBytes(r.Key), textBytes(r.Value)...)
	return append(b, leb.Encode(uint64(r.Version))...), api.OK
}

// takeByWords is P3.2 word by word: what one call takes up of b, how many bytes that has, or the error.
func takeByWords(b []byte, a ask) (thing, int, api.Errno) {
	switch a.kind {
	case aUint:
		v, n, e := numberByWords(b)
		return thing{u: v}, n, e
	case anInt:
		v, n, e := intByWords(b, a.most)
		return thing{v: v}, n, e
	case aText:
		s, n, e := textByWords(b, a.most)
		return thing{s: s}, n, e
	case aFlag:
		if len(b) == 0 {
			return thing{}, 0, api.ErrPackShort
		}
		if b[0] != 0 && b[0] != 1 {
			return thing{}, 0, api.ErrPackForm
		}
		return thing{f: b[0] == 1}, 1, api.OK
	case aDigest:
		if len(b) < 32 {
			return thing{}, 0, api.ErrPackShort
		}
		return thing{d: api.Digest(b[:32])}, 32, api.OK
	case aRow:
		row, n, e := rowByWords(b)
		return thing{row: row}, n, e
	}
	if a.most < 0 || a.least < 0 {
		return thing{}, 0, api.ErrArg
	}
	v, n, e := intByWords(b, a.most)
	if e != api.OK {
		return thing{}, 0, e
	}
	// By floats, which do not wrap: the numbers that are tried are far enough apart.
	if float64(v)*float64(a.least) > float64(len(b)-n) {
		return thing{}, 0, api.ErrPackShort
	}
	return thing{v: v}, n, api.OK
}

func numberByWords(b []byte) (uint64, int, api.Errno) {
	v, n, e := leb.Decode(b)
	switch e {
	case api.ErrLebShort:
		return 0, 0, api.ErrPackShort
	case api.ErrLebLong:
		return 0, 0, api.ErrPackLong
	case api.ErrLebForm:
		return 0, 0, api.ErrPackForm
	}
	return v, n, api.OK
}

func intByWords(b []byte, most int) (int, int, api.Errno) {
	if most < 0 {
		return 0, 0, api.ErrArg
	}
	v, n, e := numberByWords(b)
	if e != api.OK {
		return 0, 0, e
	}
	if v > uint64(most) {
		return 0, 0, api.ErrPackLong
	}
	return int(v), n, api.OK
}

func textByWords(b []byte, most int) (string, int, api.Errno) {
	v, n, e := intByWords(b, most)
	if e != api.OK {
		return "", 0, e
	}
	if v > len(b)-n {
		return "", 0, api.ErrPackShort
	}
	return string(b[n : n+v]), n + v, api.OK
}

func rowByWords(b []byte) (api.Row, int, api.Errno) {
	key, n, e := textByWords(b, 1024)
	if e != api.OK {
		return api.Row{}, 0, e
	}
	value, m, e := textByWords(b[n:], 65536)
	if e != api.OK {
		return api.Row{}, 0, e
	}
	version, k, e := intByWords(b[n+m:], 1<<60)
	if e != api.OK {
		return api.Row{}, 0, e
	}
	if key == "" || version == 0 {
		return api.Row{}, 0, api.ErrPackForm
	}
	return api.Row{Key: key, Value: value, Version: version}, n + m + k, api.OK
}

// someInts: the ends of what a bound or a number may be, and some about the sizes of what is tried.
var someInts = []int{math.MinInt, -1, 0, 1, 2, 3, 5, 8, 31, 32, 127, 128, 300, math.MaxInt - 1, math.MaxInt}

func someAsk(r *rand.Rand) ask {
	return ask{kind(r.Intn(int(kinds))), someInts[r.Intn(len(someInts))], someInts[r.Intn(len(someInts))]}
}

// goodAsk: an ask that no bound makes fail by itself.
func goodAsk(r *rand.Rand) ask {
	return ask{kind(r.Intn(int(kinds))), []int{400, math.MaxInt}[r.Intn(2)], r.Intn(2)}
}

func someText(r *rand.Rand, n int) string {
	b := make([]byte, n)
	r.Read(b)
	return string(b)
}

func someThing(r *rand.Rand) thing {
	x := thing{u: r.Uint64() >> r.Intn(64), v: r.Intn(400), s: someText(r, r.Intn(300)), f: r.Intn(2) == 1}
	r.Read(x.d[:])
	x.row = api.Row{Key: someText(r, 1+r.Intn(40)), Value: someText(r, r.Intn(200)), Version: 1 + r.Intn(1<<r.Intn(60))}
	return x
}

// someBytes: mostly small ones, so that lengths and numbers often fit.
func someBytes(r *rand.Rand, n int) []byte {
	b := make([]byte, r.Intn(n))
	for i := range b {
		switch r.Intn(8) {
		case 0:
			b[i] = byte(r.Intn(256))
		case 1:
			b[i] = 0x80
		default:
			b[i] = byte(r.Intn(5))
		}
	}
	return b
}

func times(n int, c byte) string { return strings.Repeat(string(rune(c)), n) }

func TestErrorNumbers(t *testing.T) {
	for _, c := range []struct {
		e    api.Errno
		want int
	}{
		{api.OK, 0}, {api.ErrArg, 1}, {api.ErrMade, 2}, {api.ErrPackShort, 30}, {api.ErrPackLong, 31},
		{api.ErrPackForm, 32}, {api.ErrPackOrder, 33}, {api.ErrPackTail, 34},
	} {
		if int(c.e) != c.want {
			t.Errorf("error %d, want %d", c.e, c.want)
		}
	}
}

func TestLimits(t *testing.T) {
	for _, c := range []struct{ limit, want int }{
		{api.MaxKey, 1024}, {api.MaxValue, 65536}, {api.MaxRows, 1 << 20}, {api.MaxImage, 1 << 28}, {api.MaxSeq, 1 << 60},
	} {
		if c.limit != c.want {
			t.Errorf("limit %d, want %d", c.limit, c.want)
		}
	}
}

// P3.4

func TestThereAndBack(t *testing.T) {
	r := rand.New(rand.NewSource(1))
	for range 3000 {
		asks, things := make([]ask, r.Intn(12)), make([]thing, 0, 12)
		var w pack.Writer
		for i := range asks {
			asks[i] = goodAsk(r)
			// What Count takes up accounts for bytes behind it, which a list of things has.
			asks[i].least = 0
			x := someThing(r)
			lay(&w, asks[i], x)
			things = append(things, x)
		}
		b, e := w.Bytes()
		if e != api.OK {
			t.Fatalf("laying down %v failed: %d", asks, e)
		}
		back := pack.NewReader(b)
		var again pack.Writer
		for i, a := range asks {
			got := take(back, a)
			lay(&again, a, got)
			want, _ := layByWords(a, things[i])
			if bytesOf, _ := layByWords(a, got); back.Err() != api.OK || !bytes.Equal(bytesOf, want) {
				t.Fatalf("%v: took up %v of %v: %d", a, got, things[i], back.Err())
			}
		}
		if back.End() != api.OK || back.At() != len(b) {
			t.Fatalf("End %d, At %d of %d", back.End(), back.At(), len(b))
		}
		if c, e := again.Bytes(); e != api.OK || !bytes.Equal(b, c) {
			t.Fatalf("%x was laid down again as %x, %d", b, c, e)
		}
	}
}

func TestWhatIsTakenUpHasItsBytesAlone(t *testing.T) {
	r := rand.New(rand.NewSource(2))
	taken := [kinds]int{}
	for range 60000 {
		b := someBytes(r, 50)
		back := pack.NewReader(b)
		var w pack.Writer
		for back.Err() == api.OK && back.Left() > 0 {
			a := goodAsk(r)
			if x := take(back, a); back.Err() == api.OK {
				lay(&w, a, x)
				taken[a.kind]++
			}
		}
		if c, e := w.Bytes(); e != api.OK || !bytes.Equal(c, b[:back.At()]) {
			t.Fatalf("of %x were taken up %d bytes, and laid down %x, %d", b, back.At(), c, e)
		}
	}
	for k, n := range taken {
		if n < 100 {
			t.Errorf("kind %d was taken up %d times only", k, n)
		}
	}
}
