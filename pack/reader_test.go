package pack_test

import (
	"bytes"
	"math"
	"math/rand"
	"testing"

	"hawser/api"
	"hawser/pack"
)

func nines(c byte, behind ...byte) []byte { return append(bytes.Repeat([]byte{c}, 9), behind...) }

// rowBytes: a row's bytes, whether it may be or not.
func rowBytes(key, value string, version ...byte) []byte {
	return append(append(textBytes(key), textBytes(value)...), version...)
}

const greatest = math.MaxInt

// P3.2

func TestReaderTakesUp(t *testing.T) {
	digest := api.Digest{0: 0xff, 1: 1, 31: 7}
	longKey, longValue := times(1024, 'k'), times(65536, 'v')
	top := []byte{0x80, 0x80, 0x80, 0x80, 0x80, 0x80, 0x80, 0x80, 0x10} // 2^60
	for name, c := range map[string]struct {
		b    []byte
		a    ask
		want thing
		n    int
	}{
		"Uint 0":           {[]byte{0}, ask{kind: aUint}, thing{}, 1},
		"Uint 300":         {[]byte{0xac, 2, 9}, ask{kind: aUint}, thing{u: 300}, 2},
		"Uint, greatest":   {nines(0xff, 1), ask{kind: aUint}, thing{u: math.MaxUint64}, 10},
		"Int 0, 0":         {[]byte{0}, ask{anInt, 0, 0}, thing{}, 1},
		"Int at most":      {[]byte{0xac, 2}, ask{anInt, 300, 0}, thing{v: 300}, 2},
		"Int under most":   {[]byte{0xac, 2}, ask{anInt, 301, 0}, thing{v: 300}, 2},
		"Int, greatest":    {append(bytes.Repeat([]byte{0xff}, 8), 0x7f), ask{anInt, greatest, 0}, thing{v: greatest}, 9},
		"Text empty, 0":    {[]byte{0, 'a'}, ask{aText, 0, 0}, thing{}, 1},
		"Text at most":     {[]byte{2, 'a', 'b', 'c'}, ask{aText, 2, 0}, thing{s: "ab"}, 3},
		"Text under most":  {[]byte{2, 'a', 'b'}, ask{aText, 3, 0}, thing{s: "ab"}, 3},
		"Text, greatest":   {[]byte{2, 0xff, 0x80}, ask{aText, greatest, 0}, thing{s: "\xff\x80"}, 3},
		"Text of 300":      {append([]byte{0xac, 2}, times(300, 'x')...), ask{aText, 300, 0}, thing{s: times(300, 'x')}, 302},
		"Flag true":        {[]byte{1, 2}, ask{kind: aFlag}, thing{f: true}, 1},
		"Flag false":       {[]byte{0, 2}, ask{kind: aFlag}, thing{}, 1},
		"Digest":           {digest[:], ask{kind: aDigest}, thing{d: digest}, 32},
		"Digest, and more": {append(digest[:], 1), ask{kind: aDigest}, thing{d: digest}, 32},
		"Row":              {rowBytes("k", "v", 7, 0), ask{kind: aRow}, thing{row: api.Row{Key: "k", Value: "v", Version: 7}}, 5},
		"Row, least":       {rowBytes("\x00", "", 1), ask{kind: aRow}, thing{row: api.Row{Key: "\x00", Version: 1}}, 4},
		"Row, greatest":    {rowBytes(longKey, longValue, top...), ask{kind: aRow}, thing{row: api.Row{Key: longKey, Value: longValue, Version: 1 << 60}}, 1024 + 65536 + 14},

		"Count 0, 0 of 0":       {[]byte{0}, ask{aCount, 0, 0}, thing{}, 1},
		"Count 0 of greatest":   {[]byte{0}, ask{aCount, greatest, greatest}, thing{}, 1},
		"Count, example 4":      {[]byte{2, 1, 2, 3, 4, 5, 6, 7, 8}, ask{aCount, 100, 4}, thing{v: 2}, 1},
		"Count, more than that": {[]byte{2, 1, 2, 3, 4, 5, 6, 7, 8, 9}, ask{aCount, 2, 4}, thing{v: 2}, 1},
		"Count of least 1":      {[]byte{3, 0, 0, 0}, ask{aCount, 3, 1}, thing{v: 3}, 1},
		"Count of least 0":      {[]byte{3}, ask{aCount, 3, 0}, thing{v: 3}, 1},
		"Count, greatest of 0":  {append(bytes.Repeat([]byte{0xff}, 8), 0x7f), ask{aCount, greatest, 0}, thing{v: greatest}, 9},
		"Count of two bytes":    {append([]byte{0xac, 2}, make([]byte, 300)...), ask{aCount, 300, 1}, thing{v: 300}, 2},
	} {
		r := pack.NewReader(c.b)
		if got := take(r, c.a); got != c.want || r.Err() != api.OK || r.At() != c.n || r.Left() != len(c.b)-c.n {
			t.Errorf("%s: %v, %d, At %d, Left %d", name, got, r.Err(), r.At(), r.Left())
		}
	}
}

// readerFailing: calls of a Reader that fail, by the error.
func readerFailing() map[api.Errno][]struct {
	b []byte
	a ask
} {
	long := textBytes(times(1025, 'k'))
	above := []byte{0x81, 0x80, 0x80, 0x80, 0x80, 0x80, 0x80, 0x80, 0x10} // 2^60 + 1
	return map[api.Errno][]struct {
		b []byte
		a ask
	}{
		api.ErrArg: {
			// The bounds are looked at ahead of the bytes.
			{[]byte{0}, ask{anInt, -1, 0}},
			{nil, ask{anInt, -1, 0}},
			{[]byte{0x80, 0}, ask{anInt, math.MinInt, 0}},
			{[]byte{0}, ask{aText, -1, 0}},
			{nil, ask{aText, math.MinInt, 0}},
			{[]byte{0}, ask{aCount, -1, 0}},
			{[]byte{0}, ask{aCount, 0, -1}},
			{[]byte{0}, ask{aCount, 5, math.MinInt}},
			{nil, ask{aCount, -1, -1}},
			{[]byte{0x80, 0}, ask{aCount, 5, -1}},
			{[]byte{9}, ask{aCount, 5, -1}},
		},
		api.ErrPackShort: {
			{nil, ask{kind: aUint}},
			{[]byte{0x80}, ask{kind: aUint}},
			{nines(0x80), ask{kind: aUint}},
			{nil, ask{anInt, 5, 0}},
			{[]byte{0xff}, ask{anInt, 0, 0}},
			{nil, ask{aText, 5, 0}},
			{[]byte{0x80}, ask{aText, 5, 0}},
			{[]byte{2, 'a'}, ask{aText, 9, 0}},
			{[]byte{1}, ask{aText, 1, 0}},
			{append(bytes.Repeat([]byte{0xff}, 8), 0x7f, 'a'), ask{aText, greatest, 0}},
			{nil, ask{kind: aFlag}},
			{nil, ask{kind: aDigest}},
			{make([]byte, 31), ask{kind: aDigest}},
			{nil, ask{kind: aRow}},
			{[]byte{1}, ask{kind: aRow}},
			{[]byte{1, 'k'}, ask{kind: aRow}},
			{[]byte{1, 'k', 1}, ask{kind: aRow}},
			{[]byte{1, 'k', 1, 'v'}, ask{kind: aRow}},
			{[]byte{1, 'k', 1, 'v', 0x87}, ask{kind: aRow}},
			{[]byte{0}, ask{kind: aRow}}, // that the key is empty is told behind all others
			{[]byte{0, 1, 'v'}, ask{kind: aRow}},
			{nil, ask{aCount, 5, 1}},
			{[]byte{2, 1, 2, 3, 4, 5, 6, 7}, ask{aCount, 100, 4}},
			{[]byte{1}, ask{aCount, 100, 1}},
			{[]byte{3, 0, 0}, ask{aCount, 100, 1}},
			{[]byte{1, 0, 0, 0}, ask{aCount, 100, greatest}},
			// n times least is more than an int holds, and wraps to 0, to 2, below 0.
			{append([]byte{4}, make([]byte, 9)...), ask{aCount, 100, 1 << 62}},
			{append([]byte{16}, make([]byte, 9)...), ask{aCount, 100, 1 << 60}},
			{append([]byte{2}, make([]byte, 9)...), ask{aCount, 100, greatest}},
			{append([]byte{2}, make([]byte, 9)...), ask{aCount, 100, 1<<63 - 1}},
			{append(append(bytes.Repeat([]byte{0xff}, 8), 0x7f), make([]byte, 9)...), ask{aCount, greatest, 1}},
			{append(append(bytes.Repeat([]byte{0xff}, 8), 0x7f), make([]byte, 9)...), ask{aCount, greatest, 2}},
			{append(append(bytes.Repeat([]byte{0xff}, 8), 0x7f), make([]byte, 9)...), ask{aCount, greatest, greatest}},
		},
		api.ErrPackLong: {
			{nines(0xff, 2), ask{kind: aUint}},
			{nines(0x80, 0x80), ask{kind: aUint}},
			{nines(0xff, 2), ask{anInt, greatest, 0}},
			{[]byte{1}, ask{anInt, 0, 0}},
			{[]byte{6}, ask{anInt, 5, 0}},
			{[]byte{0xad, 2}, ask{anInt, 300, 0}},
			{nines(0x80, 1), ask{anInt, greatest, 0}}, // 2^63
			{nines(0xff, 1), ask{anInt, greatest, 0}}, // 2^64 - 1
			{append(bytes.Repeat([]byte{0xff}, 8), 0x7f), ask{anInt, greatest - 1, 0}},
			{nines(0xff, 2), ask{aText, 5, 0}},
			{[]byte{1}, ask{aText, 0, 0}}, // ahead of ErrPackShort
			{[]byte{3, 'a', 'b', 'c'}, ask{aText, 2, 0}},
			{nines(0xff, 1), ask{aText, greatest, 0}},
			{nines(0xff, 2), ask{kind: aRow}},
			{append(long, 0, 1), ask{kind: aRow}},
			{long[:2], ask{kind: aRow}}, // a key of 1025 of which there is nothing
			{append([]byte{1, 'k'}, textBytes(times(65537, 'v'))...), ask{kind: aRow}},
			{rowBytes("k", "v", above...), ask{kind: aRow}},
			{rowBytes("", "v", above...), ask{kind: aRow}},
			{rowBytes("k", "v", nines(0xff, 1)...), ask{kind: aRow}},
			{[]byte{6, 0, 0, 0, 0, 0, 0}, ask{aCount, 5, 1}},
			{[]byte{6}, ask{aCount, 5, 1}}, // ahead of ErrPackShort
			{nines(0x80, 1), ask{aCount, greatest, 0}},
			{nines(0xff, 2), ask{aCount, 5, 0}},
		},
		api.ErrPackForm: {
			{[]byte{0x80, 0}, ask{kind: aUint}},
			{nines(0x80, 0), ask{kind: aUint}},
			{[]byte{0x85, 0}, ask{anInt, 9, 0}},
			{[]byte{0x85, 0}, ask{anInt, 4, 0}},
			{[]byte{0x81, 0, 'a'}, ask{aText, 9, 0}},
			{[]byte{2}, ask{kind: aFlag}},
			{[]byte{0x80, 1}, ask{kind: aFlag}},
			{[]byte{0xff}, ask{kind: aFlag}},
			{rowBytes("", "v", 7), ask{kind: aRow}},
			{rowBytes("k", "v", 0), ask{kind: aRow}},
			{rowBytes("", "", 0), ask{kind: aRow}},
			{[]byte{0x81, 0, 'k', 0, 1}, ask{kind: aRow}},
			{[]byte{1, 'k', 0x80, 0, 1}, ask{kind: aRow}},
			{rowBytes("k", "v", 0x81, 0), ask{kind: aRow}},
			{[]byte{0x82, 0, 1, 2, 3}, ask{aCount, 9, 1}},
		},
	}
}

// still says whether a Reader stands where it failed: nothing more is taken up, and all else is zero.
func still(r *pack.Reader, e api.Errno, at, left int) bool {
	for k := range kinds {
		if take(r, ask{k, 300, 0}) != (thing{}) || take(r, ask{k, -1, -1}) != (thing{}) {
			return false
		}
	}
	r.Fail(api.OK)
	r.Fail(api.ErrPackOrder)
	return r.Err() == e && r.End() == e && r.At() == at && r.Left() == left
}

func TestReaderErrors(t *testing.T) {
	for want, l := range readerFailing() {
		for _, c := range l {
			r := pack.NewReader(c.b)
			if got := take(r, c.a); got != (thing{}) || r.Err() != want || r.End() != want || r.At() != 0 || r.Left() != len(c.b) {
				t.Errorf("%v of %.20x: %v, %d, At %d, Left %d, want error %d", c.a, c.b, got, r.Err(), r.At(), r.Left(), want)
			}
			if !still(r, want, 0, len(c.b)) {
				t.Errorf("%v of %.20x: something was taken up behind the error", c.a, c.b)
			}
		}
	}
}

func TestReaderErrorsBehindOtherThings(t *testing.T) {
	for want, l := range readerFailing() {
		for _, c := range l {
			r := pack.NewReader(append([]byte{1, 3, 'a', 'b', 'c'}, c.b...))
			if !r.Flag() || r.Text(3) != "abc" {
				t.Fatal("a flag and a text were not taken up")
			}
			if got := take(r, c.a); got != (thing{}) || !still(r, want, 5, len(c.b)) {
				t.Errorf("%v of %.20x: %v, %d, At %d, Left %d, want error %d", c.a, c.b, got, r.Err(), r.At(), r.Left(), want)
			}
		}
	}
}

// A call that fails may have gone over good bytes: the next call would take these up, were the error not there.
func TestReaderErrorsAheadOfGoodBytes(t *testing.T) {
	for _, c := range []struct {
		b    []byte
		a    ask
		want api.Errno
	}{
		{append([]byte{40}, make([]byte, 39)...), ask{aText, 50, 0}, api.ErrPackShort},
		{append([]byte{40}, make([]byte, 50)...), ask{aText, 39, 0}, api.ErrPackLong},
		{append([]byte{1, 'k', 1, 'v', 0}, make([]byte, 50)...), ask{kind: aRow}, api.ErrPackForm},
		{append([]byte{3}, make([]byte, 50)...), ask{aCount, 5, 20}, api.ErrPackShort},
		{append([]byte{6}, make([]byte, 50)...), ask{aCount, 5, 1}, api.ErrPackLong},
		{append([]byte{6}, make([]byte, 50)...), ask{anInt, 5, 0}, api.ErrPackLong},
		{append([]byte{2}, make([]byte, 50)...), ask{kind: aFlag}, api.ErrPackForm},
	} {
		r := pack.NewReader(c.b)
		if got := take(r, c.a); got != (thing{}) || !still(r, c.want, 0, len(c.b)) {
			t.Errorf("%v of %x: %v, %d, At %d, want error %d", c.a, c.b, got, r.Err(), r.At(), c.want)
		}
	}
}

func TestReaderFail(t *testing.T) {
	for _, e := range []api.Errno{api.ErrArg, api.ErrMade, api.ErrPackTail, api.ErrScriptLong, -1, 1 << 40} {
		r := pack.NewReader([]byte{1, 1, 1, 1, 1, 1})
		r.Fail(api.OK)
		if r.Uint() != 1 || r.Err() != api.OK {
			t.Errorf("Fail(OK): %d", r.Err())
		}
		r.Fail(e)
		if !still(r, e, 1, 5) {
			t.Errorf("Fail(%d): %d, At %d", e, r.Err(), r.At())
		}
	}
}

func TestReaderEnd(t *testing.T) {
	r := pack.NewReader([]byte{5, 1})
	if r.End() != api.ErrPackTail || r.Err() != api.OK || r.Left() != 2 || r.At() != 0 {
		t.Errorf("at the beginning: End %d, Err %d", r.End(), r.Err())
	}
	if r.Uint() != 5 || r.End() != api.ErrPackTail || r.Err() != api.OK || r.Left() != 1 || r.At() != 1 {
		t.Errorf("in the midst: End %d, Err %d", r.End(), r.Err())
	}
	// That bytes are left is no error that stays.
	if !r.Flag() || r.End() != api.OK || r.Err() != api.OK || r.Left() != 0 || r.At() != 2 {
		t.Errorf("at the end: End %d, Err %d", r.End(), r.Err())
	}
	for _, b := range [][]byte{nil, {}} {
		r = pack.NewReader(b)
		if r.End() != api.OK || r.Err() != api.OK || r.Left() != 0 || r.At() != 0 {
			t.Errorf("of no bytes: End %d, Err %d, Left %d, At %d", r.End(), r.Err(), r.Left(), r.At())
		}
		if r.Text(0) != "" || r.End() != api.ErrPackShort {
			t.Errorf("a text of no bytes: End %d", r.End())
		}
	}
}

func TestReaderByWords(t *testing.T) {
	rnd := rand.New(rand.NewSource(4))
	met := map[api.Errno]int{}
	for range 100000 {
		b := someBytes(rnd, 60)
		r := pack.NewReader(b)
		at, first := 0, api.OK
		for range 1 + rnd.Intn(8) {
			a := goodAsk(rnd)
			if rnd.Intn(3) == 0 {
				a = someAsk(rnd)
			}
			want, n, e := takeByWords(b[at:], a)
			if first != api.OK {
				want, n, e = thing{}, 0, first
			}
			at, first = at+n, e
			if got := take(r, a); got != want || r.Err() != first || r.At() != at || r.Left() != len(b)-at {
				t.Fatalf("%v of %x: %v, %d, At %d, Left %d, want %v, %d, At %d", a, b, got, r.Err(), r.At(), r.Left(), want, first, at)
			}
		}
		end := first
		if end == api.OK && at < len(b) {
			end = api.ErrPackTail
		}
		if r.End() != end {
			t.Fatalf("End of %x: %d, want %d", b, r.End(), end)
		}
		met[end]++
	}
	for _, e := range []api.Errno{api.OK, api.ErrArg, api.ErrPackShort, api.ErrPackLong, api.ErrPackForm, api.ErrPackTail} {
		if met[e] < 100 {
			t.Errorf("error %d came %d times only", e, met[e])
		}
	}
}

// P3.6

func TestReaderAnswersNoMoreThanItsBytes(t *testing.T) {
	rnd := rand.New(rand.NewSource(5))
	for range 50000 {
		b := someBytes(rnd, 30)
		if s := pack.NewReader(b).Text(greatest); len(s) > len(b) {
			t.Fatalf("a text of %d bytes of %x", len(s), b)
		}
		if w := pack.NewReader(b).Row(); len(w.Key)+len(w.Value) > len(b) {
			t.Fatalf("a row of %d and %d bytes of %x", len(w.Key), len(w.Value), b)
		}
		for _, least := range []int{1, 2, 3, 1 << 30, 1 << 61, 1 << 62, greatest} {
			r := pack.NewReader(b)
			if n := r.Count(greatest, least); n > 0 && n > r.Left()/least {
				t.Fatalf("Count(%d, %d) of %x: %d", greatest, least, b, n)
			}
		}
	}
}

// R5

func TestReaderThatNoCallMade(t *testing.T) {
	for name, r := range map[string]*pack.Reader{"nil": nil, "zero": {}, "new": new(pack.Reader)} {
		r.Fail(api.ErrPackForm)
		for k := range kinds {
			if take(r, ask{k, 300, 0}) != (thing{}) || take(r, ask{k, -1, -1}) != (thing{}) {
				t.Errorf("%s: kind %d is not zero", name, k)
			}
		}
		r.Fail(api.OK)
		if r.Err() != api.ErrMade || r.End() != api.ErrMade || r.At() != 0 || r.Left() != 0 {
			t.Errorf("%s: Err %d, End %d, At %d, Left %d", name, r.Err(), r.End(), r.At(), r.Left())
		}
	}
}

// R3

func TestReaderGoesThroughBytesAsTheyWere(t *testing.T) {
	room := []byte{2, 'a', 'b', 1, 7, 9, 9, 9}
	before := bytes.Clone(room)
	r := pack.NewReader(room[:4])
	late := pack.NewReader(room[:4])
	s := r.Text(2)
	clear(room)
	if s != "ab" || !r.Flag() || r.End() != api.OK || r.Left() != 0 {
		t.Errorf("%q, End %d, Left %d", s, r.End(), r.Left())
	}
	if late.Text(2) != "ab" || !late.Flag() || late.End() != api.OK {
		t.Errorf("changed by the caller: %d", late.End())
	}
	copy(room, before)
	for n := range len(room) + 1 {
		r := pack.NewReader(room[:n])
		for k := range kinds {
			take(pack.NewReader(room[:n]), ask{k, 300, 1})
			take(r, ask{k, 300, 1})
		}
		if !bytes.Equal(room, before) {
			t.Fatalf("the bytes became %x", room)
		}
	}
	if r := pack.NewReader(room[:2]); r.Text(9) != "" || r.Err() != api.ErrPackShort {
		t.Errorf("the room behind the end was taken up: %d", r.Err())
	}
}

// R4

func TestReadersKnowNothingOfEachOther(t *testing.T) {
	b := []byte{1, 2, 3}
	r, s := pack.NewReader(b), pack.NewReader(b)
	r.Uint()
	c := *r
	s.Fail(api.ErrPackForm)
	if r.Uint() != 2 || c.Uint() != 2 || r.Uint() != 3 || r.End() != api.OK || c.End() != api.ErrPackTail || s.At() != 0 {
		t.Errorf("End %d, %d, At %d", r.End(), c.End(), s.At())
	}
	c.Fail(api.ErrPackLong)
	if r.Err() != api.OK || s.Err() != api.ErrPackForm {
		t.Errorf("Err %d, %d", r.Err(), s.Err())
	}
}
