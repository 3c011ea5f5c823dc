package crc_test

import (
	"bytes"
	"hash/crc32"
	"math"
	"math/rand"
	"slices"
	"testing"

	"hawser/api"
	"hawser/crc"
)

// powers of the document's generator.
var powers = []int{32, 28, 27, 26, 25, 23, 22, 20, 19, 18, 14, 13, 11, 10, 9, 8, 6, 0}

// order: x^order is 1 modulo the generator, and it is a prime, so that x^d is 1
// for its multiples d alone. The greatest numbers are told by small ones by it:
// 2^63 - 1 is 1 and 2^64 - 1 is 3 modulo it.
const order = 1<<31 - 1

// poly: the coefficients of a polynomial, that of x^0 first.
type poly []byte

// rest: p modulo the generator, by long division, as a word.
func rest(p poly) uint32 {
	p = slices.Clone(p)
	for d := len(p) - 1; d >= 32; d-- {
		if p[d] == 0 {
			continue
		}
		for _, k := range powers {
			p[d-32+k] ^= 1
		}
	}
	var w uint32
	for d := range min(len(p), 32) {
		w |= uint32(p[d]) << (31 - d)
	}
	return w
}

// polyOf: the polynomial of a word.
func polyOf(w uint32) poly {
	p := make(poly, 32)
	for i := range 32 {
		p[31-i] = byte(w >> i & 1)
	}
	return p
}

// times: the product, without taking anything modulo.
func times(p, q poly) poly {
	r := make(poly, len(p)+len(q))
	for i, a := range p {
		for j, b := range q {
			r[i+j] ^= a & b
		}
	}
	return r
}

// byDivision is the document's word 'the sum'.
func byDivision(b []byte) uint32 {
	n := 8 * len(b)
	p := make(poly, n+32)
	for i := range n {
		p[n-1-i+32] = b[i/8] >> (i % 8) & 1
	}
	for d := range 32 {
		p[d+n] ^= 1
	}
	return ^rest(p)
}

// byRegister is the document's other word for it, from any beginning.
func byRegister(c uint32, b []byte) uint32 {
	r := ^c
	for _, v := range b {
		r ^= uint32(v)
		for range 8 {
			left := r & 1
			r >>= 1
			if left == 1 {
				r ^= 0x82f63b78
			}
		}
	}
	return ^r
}

// words: words at their ends, with one bit, and others.
func words() []uint32 {
	l := []uint32{0, math.MaxUint32, 0x82f63b78, 0x12345678, 0xe3069283}
	for i := range 32 {
		l = append(l, 1<<i)
	}
	r := rand.New(rand.NewSource(1))
	for range 60 {
		l = append(l, r.Uint32())
	}
	return l
}

// texts: no bytes, every one byte, texts of one kind of bytes, and others.
func texts() [][]byte {
	l := [][]byte{nil, {}, []byte("123456789")}
	for c := range 256 {
		l = append(l, []byte{byte(c)})
	}
	for n := range 40 {
		l = append(l, make([]byte, n), bytes.Repeat([]byte{0xff}, n))
	}
	r := rand.New(rand.NewSource(2))
	for n := range 100 {
		b := make([]byte, n)
		r.Read(b)
		l = append(l, b)
	}
	return l
}

// quiet: the word of a call that has no error.
func quiet(t *testing.T) func(uint32, api.Errno) uint32 {
	return func(w uint32, e api.Errno) uint32 {
		t.Helper()
		if e != api.OK {
			t.Fatalf("error %d", e)
		}
		return w
	}
}

func TestErrorNumbers(t *testing.T) {
	if api.OK != 0 || api.ErrArg != 1 || api.ErrCrcPlace != 20 {
		t.Errorf("errors %d, %d, %d, want 0, 1, 20", api.OK, api.ErrArg, api.ErrCrcPlace)
	}
}

// P2.1

func TestSum(t *testing.T) {
	for _, c := range []struct {
		parts [][]byte
		want  uint32
	}{
		{nil, 0},
		{[][]byte{}, 0},
		{[][]byte{nil}, 0},
		{[][]byte{{}, nil, {}}, 0},
		{[][]byte{[]byte("123456789")}, 0xe3069283},
		{[][]byte{[]byte("1234"), []byte("56789")}, 0xe3069283},
		{[][]byte{nil, []byte("1234"), {}, nil, []byte("5678"), {}, []byte("9"), nil}, 0xe3069283},
		{[][]byte{make([]byte, 32)}, 0x8a9136aa},
		{[][]byte{bytes.Repeat([]byte{0xff}, 32)}, 0x62a8ab43},
		{[][]byte{[]byte("a")}, 0xc1d04330},
	} {
		if got := crc.Sum(c.parts...); got != c.want {
			t.Errorf("Sum(%q) = %08x, want %08x", c.parts, got, c.want)
		}
	}
}

func TestSumByDivision(t *testing.T) {
	for _, b := range texts() {
		got := crc.Sum(b)
		if want := byDivision(b); got != want {
			t.Fatalf("Sum(%x) = %08x, want %08x by division", b, got, want)
		}
		if want := byRegister(0, b); got != want {
			t.Fatalf("Sum(%x) = %08x, want %08x by the register", b, got, want)
		}
	}
	long := make([]byte, 1<<20)
	rand.New(rand.NewSource(3)).Read(long)
	if got, want := crc.Sum(long), crc32.Checksum(long, crc32.MakeTable(crc32.Castagnoli)); got != want {
		t.Errorf("Sum of %d bytes = %08x, want %08x", len(long), got, want)
	}
}

// P2.2

func TestMore(t *testing.T) {
	if got := crc.More(0, []byte("a")); got != 0xc1d04330 {
		t.Errorf("More(0, a) = %08x", got)
	}
	if got := crc.More(crc.Sum([]byte("1234")), []byte("56789")); got != 0xe3069283 {
		t.Errorf("More of the rest = %08x", got)
	}
	for _, c := range words() {
		if crc.More(c, nil) != c || crc.More(c, []byte{}) != c {
			t.Fatalf("More(%08x) of no bytes = %08x", c, crc.More(c, nil))
		}
		for _, b := range texts() {
			if got, want := crc.More(c, b), byRegister(c, b); got != want {
				t.Fatalf("More(%08x, %x) = %08x, want %08x", c, b, got, want)
			}
		}
	}
}

func TestMoreGoesOn(t *testing.T) {
	all := texts()
	for i, p := range all {
		x := all[(7*i+3)%len(all)]
		if got, want := crc.More(crc.Sum(x), p), crc.Sum(x, p); got != want {
			t.Fatalf("More(Sum(%x), %x) = %08x, want %08x", x, p, got, want)
		}
		if got, want := crc.More(0, p), crc.Sum(p); got != want {
			t.Fatalf("More(0, %x) = %08x, want %08x", p, got, want)
		}
	}
}

// P2.3

func TestZeros(t *testing.T) {
	for _, c := range words() {
		for _, n := range []int{0, 1, 2, 3, 4, 5, 7, 8, 31, 32, 33, 100, 1000} {
			got, e := crc.Zeros(c, n)
			if want := byRegister(c, make([]byte, n)); got != want || e != api.OK {
				t.Fatalf("Zeros(%08x, %d) = %08x, %d, want %08x", c, n, got, e, want)
			}
		}
		for _, n := range []int{-1, -2, math.MinInt} {
			if got, e := crc.Zeros(c, n); got != 0 || e != api.ErrArg {
				t.Fatalf("Zeros(%08x, %d) = %08x, %d, want ErrArg", c, n, got, e)
			}
		}
	}
	if got, e := crc.Zeros(0, 32); got != 0x8a9136aa || e != api.OK {
		t.Errorf("Zeros(0, 32) = %08x, %d", got, e)
	}
	if got, e := crc.Zeros(5, 0); got != 5 || e != api.OK {
		t.Errorf("Zeros(5, 0) = %08x, %d", got, e)
	}
}

func TestZerosOfManyBytes(t *testing.T) {
	ok := quiet(t)
	const many = 1<<22 + 5
	for _, c := range words() {
		if got, want := ok(crc.Zeros(c, math.MaxInt)), byRegister(c, []byte{0}); got != want {
			t.Fatalf("Zeros(%08x) of the greatest int = %08x, want %08x", c, got, want)
		}
		if got, want := ok(crc.Zeros(c, math.MaxInt-1)), c; got != want {
			t.Fatalf("Zeros(%08x) of one less = %08x, want %08x", c, got, want)
		}
		if got, want := ok(crc.Zeros(c, 3*order+4)), byRegister(c, make([]byte, 4)); got != want {
			t.Fatalf("Zeros(%08x) beyond the order = %08x, want %08x", c, got, want)
		}
		half := ok(crc.Zeros(c, 1<<61))
		if got, want := ok(crc.Zeros(half, 1<<61+9)), ok(crc.Zeros(c, 1<<62+9)); got != want {
			t.Fatalf("Zeros(%08x) in two steps = %08x, in one %08x", c, got, want)
		}
	}
	if got, want := ok(crc.Zeros(77, many)), crc.More(77, make([]byte, many)); got != want {
		t.Errorf("Zeros(77, %d) = %08x, want %08x", many, got, want)
	}
}

// joined is the document's word for Join, for a few bytes.
func joined(a, b uint32, n int) uint32 {
	return rest(append(make(poly, 8*n), polyOf(a)...)) ^ b
}

func TestJoin(t *testing.T) {
	all := words()
	for i, a := range all {
		b := all[(5*i+2)%len(all)]
		for _, n := range []int{0, 1, 2, 3, 4, 5, 32, 100} {
			got, e := crc.Join(a, b, n)
			if want := joined(a, b, n); got != want || e != api.OK {
				t.Fatalf("Join(%08x, %08x, %d) = %08x, %d, want %08x", a, b, n, got, e, want)
			}
		}
		for _, n := range []int{-1, -2, math.MinInt} {
			if got, e := crc.Join(a, b, n); got != 0 || e != api.ErrArg {
				t.Fatalf("Join(%08x, %08x, %d) = %08x, %d, want ErrArg", a, b, n, got, e)
			}
		}
		for _, c := range []struct{ many, few int }{
			{math.MaxInt, 1}, {math.MaxInt - 1, 0}, {1 << 62, 1}, {1 << 61, 1 << 30}, {order, 0}, {order + 3, 3},
		} {
			got, e := crc.Join(a, b, c.many)
			want := quiet(t)(crc.Join(a, b, c.few))
			if got != want || e != api.OK {
				t.Fatalf("Join(%08x, %08x, %d) = %08x, %d, want %08x", a, b, c.many, got, e, want)
			}
		}
	}
	if got, e := crc.Join(crc.Sum([]byte("12345")), crc.Sum([]byte("6789")), 4); got != 0xe3069283 || e != api.OK {
		t.Errorf("Join of 12345 and 6789 = %08x, %d", got, e)
	}
}

// P2.4

// turned is the document's word for Turned, for a short text.
func turned(c uint32, size, at int, mask byte) uint32 {
	m := make(poly, 8)
	for i := range 8 {
		m[7-i] = mask >> i & 1
	}
	return c ^ rest(append(make(poly, 8*(size-1-at)+32), m...))
}

func TestTurned(t *testing.T) {
	for _, c := range []uint32{0, 5, 0xe3069283, math.MaxUint32} {
		for _, size := range []int{1, 2, 3, 9, 40} {
			for at := range size {
				for mask := 0; mask < 256; mask += 5 { // 0 and 255 among them
					got, e := crc.Turned(c, size, at, byte(mask))
					if want := turned(c, size, at, byte(mask)); got != want || e != api.OK {
						t.Fatalf("Turned(%08x, %d, %d, %02x) = %08x, %d, want %08x", c, size, at, mask, got, e, want)
					}
				}
			}
		}
	}
	got, e := crc.Turned(crc.Sum([]byte("123456789")), 9, 0, 1)
	if got != crc.Sum([]byte("023456789")) || e != api.OK {
		t.Errorf("Turned of 123456789 = %08x, %d", got, e)
	}
}

func TestTurnedOfManyBytes(t *testing.T) {
	ok := quiet(t)
	for _, mask := range []byte{0, 1, 2, 0x80, 0x5a, 0xff} {
		for _, c := range []struct{ size, at, behind int }{
			{math.MaxInt, math.MaxInt - 1, 0},
			{math.MaxInt, 0, 0}, // MaxInt - 1 bytes behind it, a multiple of the order
			{math.MaxInt, 3, math.MaxInt - 4},
			{math.MaxInt, math.MaxInt - 6, 5},
			{1<<62 + 1, 0, 1 << 62},
			{order + 8, 0, 7},
			{order + 8, 7, 0},
		} {
			got := ok(crc.Turned(12345, c.size, c.at, mask))
			// A mask's bits alone are a word; it is moved as the sum of a text is.
			want := 12345 ^ ok(crc.Join(turned(0, 1, 0, mask), 0, c.behind))
			if got != want {
				t.Errorf("Turned(12345, %d, %d, %02x) = %08x, want %08x", c.size, c.at, mask, got, want)
			}
		}
		if got, want := ok(crc.Turned(0, math.MaxInt, 0, mask)), turned(0, 1, 0, mask); got != want {
			t.Errorf("Turned(0, %d, 0, %02x) = %08x, want %08x", math.MaxInt, mask, got, want)
		}
	}
}

func TestTurnedOfWrongPlaces(t *testing.T) {
	for _, c := range []struct {
		size, at int
		want     api.Errno
	}{
		{9, 9, api.ErrCrcPlace},
		{9, 10, api.ErrCrcPlace},
		{9, -1, api.ErrCrcPlace},
		{9, math.MaxInt, api.ErrCrcPlace},
		{9, math.MinInt, api.ErrCrcPlace},
		{1, 1, api.ErrCrcPlace},
		{0, 0, api.ErrCrcPlace},
		{0, -1, api.ErrCrcPlace},
		{0, 1, api.ErrCrcPlace},
		{math.MaxInt, math.MaxInt, api.ErrCrcPlace},
		{math.MaxInt, -1, api.ErrCrcPlace},
		{math.MaxInt, math.MinInt, api.ErrCrcPlace},
		{-1, 0, api.ErrArg},
		{-1, -1, api.ErrArg},
		{-1, -2, api.ErrArg},
		{-1, 5, api.ErrArg},
		{math.MinInt, 0, api.ErrArg},
		{math.MinInt, math.MaxInt, api.ErrArg},
		{math.MinInt, math.MinInt, api.ErrArg},
	} {
		for _, mask := range []byte{0, 1, 0xff} {
			if got, e := crc.Turned(7, c.size, c.at, mask); got != 0 || e != c.want {
				t.Errorf("Turned(7, %d, %d, %02x) = %08x, %d, want 0, %d", c.size, c.at, mask, got, e, c.want)
			}
		}
	}
}

// P2.5

func TestTail(t *testing.T) {
	for _, c := range words() {
		for _, want := range words() {
			tail := crc.Tail(c, want)
			if got := byRegister(c, tail[:]); got != want {
				t.Fatalf("Tail(%08x, %08x) = %x leads to %08x", c, want, tail, got)
			}
			four := [4]byte{byte(want), byte(want >> 8), byte(want >> 16), byte(want >> 24)}
			if got := crc.Tail(c, crc.More(c, four[:])); got != four {
				t.Fatalf("Tail of what %x leads to from %08x = %x", four, c, got)
			}
		}
	}
}

// P2.6

func TestSeal(t *testing.T) {
	for _, p := range texts() {
		w := byRegister(0, p)
		want := append(bytes.Clone(p), byte(w), byte(w>>8), byte(w>>16), byte(w>>24))
		if got := crc.Seal(p); !bytes.Equal(got, want) {
			t.Fatalf("Seal(%x) = %x, want %x", p, got, want)
		}
		if !crc.Holds(want) {
			t.Fatalf("Holds(%x) is false", want)
		}
	}
	if got := crc.Seal([]byte("123456789")); string(got) != "123456789\x83\x92\x06\xe3" {
		t.Errorf("Seal(123456789) = %x", got)
	}
	if got := crc.Seal(nil); string(got) != "\x00\x00\x00\x00" {
		t.Errorf("Seal of nothing = %x", got)
	}
}

func TestHolds(t *testing.T) {
	for _, c := range []struct {
		b    string
		want bool
	}{
		{"", false},
		{"\x00", false},
		{"\x00\x00", false},
		{"\x00\x00\x00", false},
		{"abc", false},
		{"\x00\x00\x00\x00", true},
		{"\x00\x00\x00\x01", false},
		{"\x01\x00\x00\x00", false},
		{"\x00\x00\x00\x00\x00", false},
		{"a\x30\x43\xd0\xc1", true},
		{"a\xc1\xd0\x43\x30", false},
		{"\x30\x43\xd0\xc1a", false},
		{"123456789\x83\x92\x06\xe3", true},
		{"123456789\x83\x92\x06\xe2", false},
		{"123456789\x83\x92\x06", false},
		{"123456789\x83\x92\x06\xe3\x00", false},
		{"123456789", false},
	} {
		if got := crc.Holds([]byte(c.b)); got != c.want {
			t.Errorf("Holds(%x) = %t", c.b, got)
		}
	}
	if crc.Holds(nil) {
		t.Error("Holds of nothing")
	}
}

func TestHoldsByWords(t *testing.T) {
	for _, b := range texts() {
		want := false
		if n := len(b) - 4; n >= 0 {
			w := byRegister(0, b[:n])
			want = bytes.Equal(b[n:], []byte{byte(w), byte(w >> 8), byte(w >> 16), byte(w >> 24)})
		}
		if got := crc.Holds(b); got != want {
			t.Fatalf("Holds(%x) = %t", b, got)
		}
	}
}

// P2.7

func TestMul(t *testing.T) {
	for _, c := range []struct{ a, b, want uint32 }{
		{1, 0x40000000, 0x82f63b78},
		{0x40000000, 1, 0x82f63b78},
		{0, 7, 0},
		{7, 0, 0},
		{0, 0, 0},
		{0x80000000, 12345, 12345},
		{12345, 0x80000000, 12345},
		{0x40000000, 0x40000000, 0x20000000},
	} {
		if got := crc.Mul(c.a, c.b); got != c.want {
			t.Errorf("Mul(%08x, %08x) = %08x, want %08x", c.a, c.b, got, c.want)
		}
	}
	for _, a := range words() {
		for _, b := range words() {
			if got, want := crc.Mul(a, b), rest(times(polyOf(a), polyOf(b))); got != want {
				t.Fatalf("Mul(%08x, %08x) = %08x, want %08x", a, b, got, want)
			}
		}
	}
}

func TestPower(t *testing.T) {
	for _, c := range []struct {
		n    uint64
		want uint32
	}{
		{0, 0x80000000}, {1, 0x40000000}, {8, 0x00800000}, {31, 1}, {32, 0x82f63b78},
		{order, 0x80000000}, {order + 31, 1}, {1 << 31, 0x40000000}, {1 << 63, 0x20000000},
		{math.MaxUint64, 0x10000000}, {math.MaxUint64 - 3, 0x80000000},
	} {
		if got := crc.Power(c.n); got != c.want {
			t.Errorf("Power(%d) = %08x, want %08x", c.n, got, c.want)
		}
	}
	for n := range 300 {
		if got, want := crc.Power(uint64(n)), rest(append(make(poly, n), 1)); got != want {
			t.Errorf("Power(%d) = %08x, want %08x", n, got, want)
		}
	}
	// Each power of two from the one ahead, by long division.
	square := uint32(0x40000000)
	for k := range 64 {
		if got := crc.Power(1 << k); got != square {
			t.Errorf("Power(2^%d) = %08x, want %08x", k, got, square)
		}
		square = rest(times(polyOf(square), polyOf(square)))
	}
}

// A loop over n would not end within a test's time.
func TestGreatNumbersEndQuickly(t *testing.T) {
	ok := quiet(t)
	for i := range 2000 {
		n := math.MaxInt - i
		ok(crc.Zeros(9, n))
		ok(crc.Join(9, 9, n))
		ok(crc.Turned(9, n, i, 1))
		crc.Power(math.MaxUint64 - uint64(i))
	}
}

// P2.8

func TestSumOfAnyCuts(t *testing.T) {
	r := rand.New(rand.NewSource(4))
	for _, b := range texts() {
		want := crc.Sum(b)
		var parts [][]byte
		for left := b; len(left) > 0; {
			n := r.Intn(len(left) + 1)
			parts = append(parts, left[:n])
			left = left[n:]
		}
		if got := crc.Sum(parts...); got != want {
			t.Fatalf("Sum(%x) = %08x, whole %08x", parts, got, want)
		}
	}
}

func TestJoinIsTheSumOfBoth(t *testing.T) {
	ok := quiet(t)
	all := texts()
	for i, x := range all {
		for _, y := range [][]byte{nil, {0}, all[(11*i+1)%len(all)], all[(17*i+5)%len(all)]} {
			got := ok(crc.Join(crc.Sum(x), crc.Sum(y), len(y)))
			if want := crc.Sum(x, y); got != want {
				t.Fatalf("Join of %x and %x = %08x, want %08x", x, y, got, want)
			}
		}
	}
}

func TestTurnedIsTheSumOfTheOther(t *testing.T) {
	ok := quiet(t)
	for _, x := range texts() {
		for at := range x {
			for _, mask := range []byte{0, 1, 0x80, 0x5a, 0xff} {
				other := bytes.Clone(x)
				other[at] ^= mask
				got := ok(crc.Turned(crc.Sum(x), len(x), at, mask))
				if want := crc.Sum(other); got != want {
					t.Fatalf("Turned of %x at %d by %02x = %08x, want %08x", x, at, mask, got, want)
				}
			}
		}
	}
}

// P2.9

func TestWordsAreARing(t *testing.T) {
	all := words()
	one := crc.Power(0)
	for i, a := range all {
		if crc.Mul(a, one) != a || crc.Mul(one, a) != a {
			t.Fatalf("Power(0) is not one for %08x", a)
		}
		c := all[(3*i+1)%len(all)]
		for _, b := range all {
			if crc.Mul(a, b) != crc.Mul(b, a) {
				t.Fatalf("Mul(%08x, %08x) hangs on the order", a, b)
			}
			if crc.Mul(crc.Mul(a, b), c) != crc.Mul(a, crc.Mul(b, c)) {
				t.Fatalf("Mul of %08x, %08x, %08x hangs on the brackets", a, b, c)
			}
			if crc.Mul(a, b^c) != crc.Mul(a, b)^crc.Mul(a, c) {
				t.Fatalf("Mul(%08x, %08x + %08x) is not the sum of the Muls", a, b, c)
			}
		}
	}
}

func TestPowersAdd(t *testing.T) {
	r := rand.New(rand.NewSource(5))
	pairs := [][2]uint64{{0, 0}, {0, math.MaxUint64}, {math.MaxUint64 - 1, 1}, {1 << 63, 1<<63 - 1}, {31, 1}}
	for range 2000 {
		sum := r.Uint64()>>r.Intn(64) | 1
		m := r.Uint64() % sum
		pairs = append(pairs, [2]uint64{m, sum - m})
	}
	for _, p := range pairs {
		if got, want := crc.Mul(crc.Power(p[0]), crc.Power(p[1])), crc.Power(p[0]+p[1]); got != want {
			t.Fatalf("Mul(Power(%d), Power(%d)) = %08x, want %08x", p[0], p[1], got, want)
		}
	}
}

// P2.10

// turn: the bits of a text at these places, turned.
func turn(b []byte, places ...int) {
	for _, i := range places {
		b[i/8] ^= 1 << (i % 8)
	}
}

func TestOneToThreeBitsAreTold(t *testing.T) {
	b := crc.Seal([]byte("a text of bytes"))
	told := func(places ...int) {
		turn(b, places...)
		if crc.Holds(b) {
			t.Fatalf("the bits %v turned, and it holds", places)
		}
		turn(b, places...)
	}
	n := 8 * len(b)
	for i := range n {
		told(i)
		for j := range i {
			told(i, j)
			for k := range j {
				told(i, j, k)
			}
		}
	}
	if !crc.Holds(b) {
		t.Error("it does not hold as it was")
	}
}

func TestNeighboursAreTold(t *testing.T) {
	r := rand.New(rand.NewSource(6))
	b := crc.Seal([]byte("a text of bytes"))
	for first := range 8*len(b) - 31 {
		for k := range 300 {
			mask := r.Uint32()
			switch {
			case k == 0:
				mask = math.MaxUint32
			case k <= 32:
				mask = 1 << (k - 1)
			}
			var places []int
			for i := range 32 {
				if mask>>i&1 == 1 {
					places = append(places, first+i)
				}
			}
			if len(places) == 0 {
				continue
			}
			turn(b, places...)
			if crc.Holds(b) {
				t.Fatalf("bits %08x from %d on turned, and it holds", mask, first)
			}
			turn(b, places...)
		}
	}
}

// In the longest texts of which anything is told, the sums are reckoned by Turned.
func TestBitsOfLongTextsAreTold(t *testing.T) {
	const size = 1 << 27
	ok := quiet(t)
	r := rand.New(rand.NewSource(7))
	after := func(places ...int) uint32 {
		c := uint32(0x1234)
		for _, i := range places {
			c = ok(crc.Turned(c, size, i/8, 1<<(i%8)))
		}
		return c
	}
	ends := []int{0, 1, 7, 8, 31, 32, 8*size - 1, 8*size - 8, 8*size - 33}
	some := func() int {
		if r.Intn(3) == 0 {
			return ends[r.Intn(len(ends))]
		}
		return r.Intn(8 * size)
	}
	for range 3000 {
		l := []int{some(), some(), some()}
		slices.Sort(l)
		l = slices.Compact(l)
		for n := 1; n <= len(l); n++ {
			if after(l[:n]...) == 0x1234 {
				t.Fatalf("the bits %v turned, and the sum is the same", l[:n])
			}
		}
	}
}

// Two bits are d apart: their texts have one sum if x^d is 1 modulo the
// generator, and then alone. The order is a prime, so that no lesser d does it.
func TestTwoBitsFarApartAreTold(t *testing.T) {
	if crc.Power(1) == crc.Power(0) || crc.Power(order) != crc.Power(0) {
		t.Fatal("the order of x is another one")
	}
	for d := uint64(1); d < 8<<27+32; d += d/50 + 1 {
		if crc.Power(d) == crc.Power(0) {
			t.Errorf("two bits %d apart are not told", d)
		}
	}
}

// R3

func TestArgumentsStayAsTheyWere(t *testing.T) {
	room := []byte("123456789 and room behind it")
	before := bytes.Clone(room)
	p := room[:9]
	parts := [][]byte{p[:4], p[4:], nil, []byte("behind")}
	crc.Sum(parts[:3]...)
	crc.More(3, p)
	crc.Seal(p)
	crc.Holds(p)
	crc.Seal(p[:0])
	if !bytes.Equal(room, before) {
		t.Errorf("the bytes were changed: %q", room)
	}
	if string(parts[0]) != "1234" || string(parts[1]) != "56789" || parts[2] != nil || string(parts[3]) != "behind" {
		t.Errorf("the parts were changed: %q", parts)
	}
}

func TestSealIsNewMemory(t *testing.T) {
	room := []byte("abcdefgh")
	a, b := crc.Seal(room[:2]), crc.Seal(room[:2])
	want := bytes.Clone(a)
	for i := range room {
		room[i] = 'x'
	}
	if !bytes.Equal(a, want) {
		t.Error("Seal's answer changes with what was handed in")
	}
	whole := b[:cap(b)]
	for i := range whole {
		whole[i] = 'y'
	}
	if !bytes.Equal(a, want) || string(room) != "xxxxxxxx" {
		t.Error("Seal's answer shares its memory")
	}
}
