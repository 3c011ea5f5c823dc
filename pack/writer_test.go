package pack_test

import (
	"bytes"
	"math"
	"math/rand"
	"testing"

	"hawser/api"
	"hawser/pack"
)

// calls: every call of a Writer that may lay something down, in its good form.
func calls() map[string]func(w *pack.Writer) {
	return map[string]func(w *pack.Writer){
		"Uint":   func(w *pack.Writer) { w.Uint(300) },
		"Int":    func(w *pack.Writer) { w.Int(5, 9) },
		"Text":   func(w *pack.Writer) { w.Text("ab", 2) },
		"Flag":   func(w *pack.Writer) { w.Flag(true) },
		"Digest": func(w *pack.Writer) { w.Digest(api.Digest{1, 2, 3}) },
		"Row":    func(w *pack.Writer) { w.Row(api.Row{Key: "k", Value: "v", Version: 7}) },
	}
}

// failing: calls of a Writer that fail, by the error.
func failing() map[api.Errno][]func(w *pack.Writer) {
	return map[api.Errno][]func(w *pack.Writer){
		api.ErrArg: {
			func(w *pack.Writer) { w.Int(-1, 5) },
			func(w *pack.Writer) { w.Int(5, -1) },
			func(w *pack.Writer) { w.Int(-1, -1) },
			func(w *pack.Writer) { w.Int(math.MinInt, math.MaxInt) },
			func(w *pack.Writer) { w.Int(math.MaxInt, math.MinInt) },
			func(w *pack.Writer) { w.Int(math.MinInt, math.MinInt) },
			func(w *pack.Writer) { w.Text("", -1) },
			func(w *pack.Writer) { w.Text("abc", -1) },
			func(w *pack.Writer) { w.Text("", math.MinInt) },
			func(w *pack.Writer) { w.Fail(api.ErrArg) },
		},
		api.ErrPackLong: {
			func(w *pack.Writer) { w.Int(1, 0) },
			func(w *pack.Writer) { w.Int(6, 5) },
			func(w *pack.Writer) { w.Int(math.MaxInt, math.MaxInt-1) },
			func(w *pack.Writer) { w.Text("a", 0) },
			func(w *pack.Writer) { w.Text("abc", 2) },
			func(w *pack.Writer) { w.Text(times(1001, 'x'), 1000) },
			func(w *pack.Writer) { w.Row(api.Row{Key: times(1025, 'k'), Version: 1}) },
			func(w *pack.Writer) { w.Row(api.Row{Key: "k", Value: times(65537, 'v'), Version: 1}) },
			func(w *pack.Writer) { w.Row(api.Row{Key: "k", Version: 1<<60 + 1}) },
			func(w *pack.Writer) { w.Row(api.Row{Key: "k", Version: math.MaxInt}) },
			func(w *pack.Writer) { w.Fail(api.ErrPackLong) },
		},
		api.ErrPackForm: {
			func(w *pack.Writer) { w.Row(api.Row{}) },
			func(w *pack.Writer) { w.Row(api.Row{Value: "v", Version: 7}) },
			func(w *pack.Writer) { w.Row(api.Row{Key: "k", Value: "v"}) },
			func(w *pack.Writer) { w.Row(api.Row{Key: "k", Value: "v", Version: -1}) },
			func(w *pack.Writer) { w.Row(api.Row{Key: "k", Value: "v", Version: math.MinInt}) },
			// What is not in its form is told ahead of what is too long.
			func(w *pack.Writer) { w.Row(api.Row{Value: times(65537, 'v'), Version: 1}) },
			func(w *pack.Writer) { w.Row(api.Row{Version: 1<<60 + 1}) },
			func(w *pack.Writer) { w.Row(api.Row{Key: times(1025, 'k')}) },
			func(w *pack.Writer) { w.Row(api.Row{Key: "k", Value: times(65537, 'v'), Version: -1}) },
			func(w *pack.Writer) { w.Fail(api.ErrPackForm) },
		},
		// Any error that is not OK may be made the first one.
		api.ErrMade:        {func(w *pack.Writer) { w.Fail(api.ErrMade) }},
		api.ErrPackTail:    {func(w *pack.Writer) { w.Fail(api.ErrPackTail) }},
		api.ErrScriptLong:  {func(w *pack.Writer) { w.Fail(api.ErrScriptLong) }},
		api.Errno(-1):      {func(w *pack.Writer) { w.Fail(-1) }},
		api.Errno(1 << 40): {func(w *pack.Writer) { w.Fail(1 << 40) }},
	}
}

// P3.1

func TestWriterLaysDown(t *testing.T) {
	digest := api.Digest{0: 0xff, 1: 1, 31: 7}
	longKey, longValue := times(1024, 'k'), times(65536, 'v')
	for name, c := range map[string]struct {
		f    func(w *pack.Writer)
		want []byte
	}{
		"nothing":         {func(w *pack.Writer) {}, nil},
		"Fail(OK)":        {func(w *pack.Writer) { w.Fail(api.OK) }, nil},
		"Uint 0":          {func(w *pack.Writer) { w.Uint(0) }, []byte{0}},
		"Uint 127":        {func(w *pack.Writer) { w.Uint(127) }, []byte{127}},
		"Uint 128":        {func(w *pack.Writer) { w.Uint(128) }, []byte{0x80, 1}},
		"Uint, greatest":  {func(w *pack.Writer) { w.Uint(math.MaxUint64) }, append(bytes.Repeat([]byte{0xff}, 9), 1)},
		"Int 0, 0":        {func(w *pack.Writer) { w.Int(0, 0) }, []byte{0}},
		"Int 5, 5":        {func(w *pack.Writer) { w.Int(5, 5) }, []byte{5}},
		"Int 4, 5":        {func(w *pack.Writer) { w.Int(4, 5) }, []byte{4}},
		"Int 300":         {func(w *pack.Writer) { w.Int(300, 300) }, []byte{0xac, 2}},
		"Int, greatest":   {func(w *pack.Writer) { w.Int(math.MaxInt, math.MaxInt) }, append(bytes.Repeat([]byte{0xff}, 8), 0x7f)},
		"Int 1, greatest": {func(w *pack.Writer) { w.Int(1, math.MaxInt) }, []byte{1}},
		"Text empty, 0":   {func(w *pack.Writer) { w.Text("", 0) }, []byte{0}},
		"Text empty, 9":   {func(w *pack.Writer) { w.Text("", 9) }, []byte{0}},
		"Text at most":    {func(w *pack.Writer) { w.Text("ab", 2) }, []byte{2, 'a', 'b'}},
		"Text under most": {func(w *pack.Writer) { w.Text("ab", 3) }, []byte{2, 'a', 'b'}},
		"Text, greatest":  {func(w *pack.Writer) { w.Text("ab", math.MaxInt) }, []byte{2, 'a', 'b'}},
		"Text, any bytes": {func(w *pack.Writer) { w.Text("\x00\xff\x80", 3) }, []byte{3, 0, 0xff, 0x80}},
		"Text of 300":     {func(w *pack.Writer) { w.Text(times(300, 'x'), 300) }, append([]byte{0xac, 2}, times(300, 'x')...)},
		"Flag true":       {func(w *pack.Writer) { w.Flag(true) }, []byte{1}},
		"Flag false":      {func(w *pack.Writer) { w.Flag(false) }, []byte{0}},
		"Digest":          {func(w *pack.Writer) { w.Digest(digest) }, digest[:]},
		"Row":             {func(w *pack.Writer) { w.Row(api.Row{Key: "k", Value: "v", Version: 7}) }, []byte{1, 'k', 1, 'v', 7}},
		"Row, least":      {func(w *pack.Writer) { w.Row(api.Row{Key: "\x00", Version: 1}) }, []byte{1, 0, 0, 1}},
		"Row, greatest": {
			func(w *pack.Writer) { w.Row(api.Row{Key: longKey, Value: longValue, Version: 1 << 60}) },
			append(append(append([]byte{0x80, 8}, longKey...), append([]byte{0x80, 0x80, 4}, longValue...)...), 0x80, 0x80, 0x80, 0x80, 0x80, 0x80, 0x80, 0x80, 0x10),
		},
		"example 1": {func(w *pack.Writer) { w.Uint(300); w.Flag(true); w.Text("ab", 2) }, []byte{0xac, 2, 1, 2, 'a', 'b'}},
	} {
		var w pack.Writer
		c.f(&w)
		b, e := w.Bytes()
		if e != api.OK || !bytes.Equal(b, c.want) || w.Size() != len(c.want) {
			t.Errorf("%s: %x, %d, Size %d, want %x", name, b, e, w.Size(), c.want)
		}
	}
}

func TestWriterErrors(t *testing.T) {
	for want, l := range failing() {
		for i, f := range l {
			var w pack.Writer
			f(&w)
			if b, e := w.Bytes(); e != want || len(b) != 0 || w.Size() != 0 {
				t.Errorf("call %d: %x, %d, Size %d, want error %d", i, b, e, w.Size(), want)
			}
			var v pack.Writer
			v.Uint(300)
			f(&v)
			if b, e := v.Bytes(); e != want || len(b) != 0 || v.Size() != 2 {
				t.Errorf("call %d behind two bytes: %x, %d, Size %d, want error %d", i, b, e, v.Size(), want)
			}
		}
	}
}

func TestWriterFirstErrorStays(t *testing.T) {
	for want, l := range failing() {
		for i, f := range l {
			var w pack.Writer
			w.Text("ab", 2)
			f(&w)
			for name, g := range calls() {
				g(&w)
				if b, e := w.Bytes(); e != want || len(b) != 0 || w.Size() != 3 {
					t.Errorf("call %d, then %s: %x, %d, Size %d, want error %d", i, name, b, e, w.Size(), want)
				}
			}
			w.Fail(api.OK)
			for _, others := range failing() {
				for j, g := range others {
					g(&w)
					if b, e := w.Bytes(); e != want || len(b) != 0 || w.Size() != 3 {
						t.Fatalf("call %d, then failing call %d: %x, %d, Size %d, want error %d", i, j, b, e, w.Size(), want)
					}
				}
			}
		}
	}
}

func TestWriterExampleOfAnError(t *testing.T) {
	var w pack.Writer
	w.Uint(300)
	w.Flag(true)
	w.Text("ab", 2)
	w.Text("abc", 2)
	if b, e := w.Bytes(); e != api.ErrPackLong || len(b) != 0 || w.Size() != 6 {
		t.Errorf("%x, %d, Size %d", b, e, w.Size())
	}
}

// Records of all lengths, held against P3.1 word by word; Size and Bytes are asked at every step.
func TestWriterByWords(t *testing.T) {
	r := rand.New(rand.NewSource(3))
	failed := map[api.Errno]int{}
	for range 400 {
		var w pack.Writer
		want, wantErr := []byte(nil), api.OK
		for range r.Intn(60) {
			a, x := goodAsk(r), someThing(r)
			if r.Intn(50) == 0 {
				a = someAsk(r)
				x.v = someInts[r.Intn(len(someInts))]
				x.row.Version = someInts[r.Intn(len(someInts))]
			}
			lay(&w, a, x)
			if b, e := layByWords(a, x); wantErr == api.OK {
				want, wantErr = append(want, b...), e
			}
			b, e := w.Bytes()
			if e != wantErr || w.Size() != len(want) {
				t.Fatalf("%v: %d, Size %d, want %d, Size %d", a, e, w.Size(), wantErr, len(want))
			}
			if e == api.OK && !bytes.Equal(b, want) || e != api.OK && len(b) != 0 {
				t.Fatalf("%v: %x, want %x", a, b, want)
			}
		}
		failed[wantErr]++
	}
	for _, e := range []api.Errno{api.OK, api.ErrArg, api.ErrPackLong, api.ErrPackForm} {
		if failed[e] == 0 {
			t.Errorf("no record ended with %d", e)
		}
	}
}

func TestWriterOfTextsOfAllLengths(t *testing.T) {
	for n := range 1100 {
		var w pack.Writer
		w.Uint(7)
		w.Text(times(n, 'a'), n)
		w.Flag(true)
		want := append(append([]byte{7}, textBytes(times(n, 'a'))...), 1)
		if b, e := w.Bytes(); e != api.OK || !bytes.Equal(b, want) || w.Size() != len(want) {
			t.Fatalf("a text of %d: %x, %d, Size %d", n, b, e, w.Size())
		}
	}
}

func TestWriterOfManyBytes(t *testing.T) {
	var w pack.Writer
	var want []byte
	for i := range 1 << 20 {
		w.Uint(uint64(i % 128))
		want = append(want, byte(i%128))
	}
	if b, e := w.Bytes(); e != api.OK || !bytes.Equal(b, want) || w.Size() != len(want) {
		t.Errorf("%d bytes, %d, Size %d", len(b), e, w.Size())
	}
}

// R5

func TestWriterThatIsNil(t *testing.T) {
	var w *pack.Writer
	for name, f := range calls() {
		f(w)
		if b, e := w.Bytes(); len(b) != 0 || e != api.ErrMade || w.Size() != 0 {
			t.Errorf("%s: %x, %d, Size %d", name, b, e, w.Size())
		}
	}
	for _, l := range failing() {
		for _, f := range l {
			f(w)
			if b, e := w.Bytes(); len(b) != 0 || e != api.ErrMade || w.Size() != 0 {
				t.Errorf("%x, %d, Size %d", b, e, w.Size())
			}
		}
	}
}

func TestWriterIsReadyAsAZeroValue(t *testing.T) {
	for _, w := range []*pack.Writer{new(pack.Writer), {}} {
		if b, e := w.Bytes(); len(b) != 0 || e != api.OK || w.Size() != 0 {
			t.Errorf("%x, %d, Size %d", b, e, w.Size())
		}
		w.Uint(1)
		if b, e := w.Bytes(); !bytes.Equal(b, []byte{1}) || e != api.OK || w.Size() != 1 {
			t.Errorf("%x, %d, Size %d", b, e, w.Size())
		}
	}
}

// R3

func TestBytesAreNewMemory(t *testing.T) {
	for _, n := range []int{0, 1, 2, 100, 255, 256, 257, 300, 1000, 70000} {
		var w pack.Writer
		w.Text(times(n, 'a'), n)
		want := textBytes(times(n, 'a'))
		first, _ := w.Bytes()
		second, _ := w.Bytes()
		clear(first[:cap(first)])
		if !bytes.Equal(second, want) {
			t.Errorf("a text of %d: two answers share memory", n)
		}
		w.Flag(true)
		third, _ := w.Bytes()
		if !bytes.Equal(third, append(bytes.Clone(want), 1)) {
			t.Errorf("a text of %d: the Writer shares memory with its answer", n)
		}
		for range 300 {
			w.Uint(math.MaxUint64)
		}
		if !bytes.Equal(second, want) || !bytes.Equal(third, append(bytes.Clone(want), 1)) {
			t.Errorf("a text of %d: an answer has changed by what was laid down later", n)
		}
		spare := second[len(second):cap(second)]
		for i := range spare {
			spare[i] = 0xee
		}
		if b, _ := w.Bytes(); !bytes.Equal(b[:len(want)], want) || b[len(want)] != 1 {
			t.Errorf("a text of %d: the Writer shares an answer's spare room", n)
		}
	}
}

// R4: a copy of a Writer is another object.
func TestWriterCopiesKnowNothingOfEachOther(t *testing.T) {
	for n := range 600 {
		var w pack.Writer
		var want []byte
		for range n {
			w.Uint(5)
			want = append(want, 5)
		}
		v := w
		w.Text("abc", 3)
		v.Text("xyz", 3)
		u := v
		u.Fail(api.ErrPackForm)
		w.Flag(true)
		v.Flag(false)
		if b, e := w.Bytes(); e != api.OK || !bytes.Equal(b, append(bytes.Clone(want), 3, 'a', 'b', 'c', 1)) {
			t.Fatalf("behind %d bytes: %x, %d", n, b, e)
		}
		if b, e := v.Bytes(); e != api.OK || !bytes.Equal(b, append(bytes.Clone(want), 3, 'x', 'y', 'z', 0)) {
			t.Fatalf("behind %d bytes, the copy: %x, %d", n, b, e)
		}
		if b, e := u.Bytes(); e != api.ErrPackForm || len(b) != 0 || u.Size() != n+4 {
			t.Fatalf("behind %d bytes, the copy that failed: %x, %d, Size %d", n, b, e, u.Size())
		}
	}
}
