package config_test

import (
	"math/rand"
	"slices"
	"testing"

	"hawser/api"
	"hawser/config"
	"hawser/frame"
	"hawser/message"
)

// decoded holds Decode against the chapter's words, and says whether it took the bytes.
func decoded(t *testing.T, b []byte) bool {
	t.Helper()
	want, there := taken(b)
	wrong := api.OK
	if !there {
		wrong = errForm
	}
	got, e := config.Decode(b)
	if e != wrong || !same(got, want) {
		t.Fatalf("Decode(%x): %v, %d, want %v, %d", b, got, e, want, wrong)
	}
	if !there {
		return false
	}
	if again, e := config.Encode(got); e != 0 || string(again) != string(b) {
		t.Fatalf("Encode(Decode(%x)): %x, %d", b, again, e)
	}
	return true
}

func TestBytesExamples(t *testing.T) {
	for _, x := range []struct {
		c    api.Config
		want string
	}{
		{cf(4, 2, 5, 1), "\x04\x03\x02\x05\x01"},
		{cf(1, 8), "\x01\x01\x08"},
		{cf(300, 1, 2), "\xac\x02\x02\x01\x02"},
		{cf(topEpoch, 8, 7, 6, 5, 4, 3, 2, 1), "\x80\x80\x80\x80\x80\x20\x08\x08\x07\x06\x05\x04\x03\x02\x01"},
	} {
		if b, e := config.Encode(x.c); e != 0 || string(b) != x.want {
			t.Errorf("Encode(%v): %x, %d", x.c, b, e)
		}
		if c, e := config.Decode([]byte(x.want)); e != 0 || !same(c, x.c) {
			t.Errorf("Decode(%x): %v, %d", x.want, c, e)
		}
	}
	for _, x := range []struct{ why, bytes string }{
		{"a byte behind", "\x04\x03\x02\x05\x01\x00"},
		{"a node twice", "\x04\x03\x02\x05\x02"},
		{"a node too few", "\x04\x03\x02\x05"},
		{"no count", "\x04"},
		{"nothing", ""},
		{"no chain", "\x04\x00"},
		{"an epoch of 0", "\x00\x01\x02"},
		{"an epoch above the greatest", "\x81\x80\x80\x80\x80\x20\x01\x02"},
		{"an epoch of 2^63", "\x80\x80\x80\x80\x80\x80\x80\x80\x80\x01\x01\x02"},
		{"an epoch of 2^64", "\x80\x80\x80\x80\x80\x80\x80\x80\x80\x02\x01\x02"},
		{"a long epoch", "\x84\x00\x01\x02"},
		{"a long count", "\x04\x81\x00\x02"},
		{"a long node", "\x04\x01\x82\x00"},
		{"a node of 0", "\x04\x01\x00"},
		{"a node of 9", "\x04\x01\x09"},
		{"a node of 2^64 - 1", "\x04\x01\xff\xff\xff\xff\xff\xff\xff\xff\xff\x01"},
		{"nine nodes", "\x04\x09\x01\x02\x03\x04\x05\x06\x07\x08\x01"},
		{"a count of 2^62", "\x04\x80\x80\x80\x80\x80\x80\x80\x80\x40\x01"},
	} {
		if c, e := config.Decode([]byte(x.bytes)); e != errForm || !same(c, api.Config{}) {
			t.Errorf("%s: Decode(%x): %v, %d", x.why, x.bytes, c, e)
		}
	}
	if c, e := config.Decode(nil); e != errForm || !same(c, api.Config{}) {
		t.Errorf("Decode(nil): %v, %d", c, e)
	}
	if c, e := config.Decode(make([]byte, 1<<20)); e != errForm || !same(c, api.Config{}) {
		t.Errorf("Decode of zeros: %v, %d", c, e)
	}
}

// P16.6 and P16.8, of all chains that may be.
func TestThereAndBack(t *testing.T) {
	for i, l := range chains(topNode) {
		c := cf([]int{1, 127, 128, 1 << 35, topEpoch}[i%5], l...)
		b, e := config.Encode(c)
		if e != 0 || string(b) != string(laid(c)) {
			t.Fatalf("Encode(%v): %x, %d", c, b, e)
		}
		if got, e := config.Decode(b); e != 0 || !same(got, c) {
			t.Fatalf("Decode(Encode(%v)): %v, %d", c, got, e)
		}
	}
}

func TestEncodeErrors(t *testing.T) {
	for _, c := range configs(epochs(), odd()) {
		b, e := config.Encode(c)
		if want := checked(c); e != want || want != 0 && len(b) != 0 || want == 0 && string(b) != string(laid(c)) {
			t.Fatalf("Encode(%v): %x, %d, want %d", c, b, e, want)
		}
	}
}

// The numbers of what may not be, laid down all the same.
func TestBytesOfNone(t *testing.T) {
	for _, c := range configs(epochs(), odd()) {
		if decoded(t, laid(c)) != (checked(c) == 0) {
			t.Fatalf("Decode of the bytes of %v", c)
		}
	}
}

// Each text of a few bytes.
func TestShortTexts(t *testing.T) {
	took := 0
	for _, l := range append(listsOf(6, 0, 1, 2, 3, 8, 9, 0x80, 0xff), listsOf(3, everyByte()[:80]...)...) {
		b := make([]byte, len(l))
		for i, v := range l {
			b[i] = byte(v)
		}
		if decoded(t, b) {
			took++
		}
	}
	if took < 1000 {
		t.Errorf("just %d are configurations", took)
	}
	for _, x := range everyByte() {
		for _, y := range everyByte() {
			decoded(t, []byte{byte(x), byte(y)})
			decoded(t, []byte{7, byte(x), byte(y)})
			decoded(t, []byte{byte(x), 1, byte(y)})
			decoded(t, []byte{7, 2, byte(x), byte(y)})
		}
	}
}

func everyByte() []int {
	var l []int
	for i := range 256 {
		l = append(l, i)
	}
	return l
}

// The bytes of a configuration, of which one is another one, is away, or is there besides.
func TestBytesSpoilt(t *testing.T) {
	r := rand.New(rand.NewSource(16))
	for range 300 {
		b := laid(cf(1+r.Intn(1<<(1+r.Intn(40))), perm(r)...))
		for at := range b {
			decoded(t, b[:at])
			decoded(t, b[at:])
			decoded(t, slices.Delete(slices.Clone(b), at, at+1))
			for v := range 256 {
				other := slices.Clone(b)
				other[at] = byte(v)
				decoded(t, other)
				decoded(t, slices.Insert(slices.Clone(b), at, byte(v)))
			}
		}
		for v := range 256 {
			decoded(t, append(slices.Clone(b), byte(v)))
		}
		decoded(t, slices.Concat(b, b))
	}
}

// perm: some chain that may be.
func perm(r *rand.Rand) []int {
	l := r.Perm(topNode)[:1+r.Intn(topNode)]
	for i := range l {
		l[i]++
	}
	return l
}

// Package message lays a configuration's bytes down by itself: they are the same ones.
func TestAsInMessages(t *testing.T) {
	for _, l := range chains(5) {
		c := cf(4+1<<len(l), l...)
		whole, e := message.Encode(api.Msg{Kind: api.KindConfig, To: 3, Config: c})
		f, g := frame.One(whole)
		b, h := config.Encode(c)
		if e != 0 || g != 0 || h != 0 || string(f.Body) != "\x00\x03"+string(b) {
			t.Fatalf("%v: %x as a message, %x here", c, f.Body, b)
		}
	}
}
