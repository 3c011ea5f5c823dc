package frame_test

import (
	"bytes"
	"encoding/binary"
	"hash/crc32"
	"math"
	"math/rand"
	"testing"

	"hawser/api"
	"hawser/frame"
)

// The bytes of frames as the chapter's table has them, with the library's sums.

var castagnoli = crc32.MakeTable(crc32.Castagnoli)

func summed(b ...byte) []byte {
	return binary.LittleEndian.AppendUint32(b, crc32.Checksum(b, castagnoli))
}

// headOf: a head with its right sum, whether a frame may have it or not.
func headOf(kind, length int) []byte {
	return summed(0x48, 0x57, byte(kind), byte(length), byte(length>>8), byte(length>>16))
}

func bytesOf(kind int, body []byte) []byte {
	return summed(append(headOf(kind, len(body)), body...)...)
}

func joined(parts ...[]byte) []byte { return bytes.Join(parts, nil) }

func turned(b []byte, bits ...int) []byte {
	c := bytes.Clone(b)
	for _, i := range bits {
		c[i/8] ^= 1 << (i % 8)
	}
	return c
}

func randomBytes(r *rand.Rand, n int) []byte {
	b := make([]byte, n)
	r.Read(b)
	return b
}

func same(f, g api.Frame) bool { return f.Type == g.Type && bytes.Equal(f.Body, g.Body) }

func empty(f api.Frame) bool { return f.Type == 0 && f.Body == nil }

func encoded(t *testing.T, f api.Frame) []byte {
	t.Helper()
	b, e := frame.Encode(f)
	if e != api.OK {
		t.Fatalf("Encode of type %d and %d bytes: %d", f.Type, len(f.Body), e)
	}
	return b
}

const most = 1048576

// The errors' numbers, and the limit.

func TestNumbers(t *testing.T) {
	for got, want := range map[api.Errno]api.Errno{
		api.OK: 0, api.ErrArg: 1, api.ErrFrameShort: 40, api.ErrFrameMagic: 41, api.ErrFrameForm: 42,
		api.ErrFrameLong: 43, api.ErrFrameSum: 44, api.ErrFrameTail: 45,
	} {
		if got != want {
			t.Errorf("an error has the number %d, not %d", got, want)
		}
	}
	if api.MaxBody != most {
		t.Errorf("MaxBody %d", api.MaxBody)
	}
}

// P4.1

func TestEncodeWrites(t *testing.T) {
	for name, c := range map[string]struct {
		f    api.Frame
		want string
	}{
		// The sums stand here as they are, so that no reckoning of ours is behind them.
		"no body":    {api.Frame{Type: 1}, "HW\x01\x00\x00\x00" + "\xff\x90\x68\xf4" + "\xc7\x4b\x67\x48"},
		"empty body": {api.Frame{Type: 1, Body: []byte{}}, "HW\x01\x00\x00\x00" + "\xff\x90\x68\xf4" + "\xc7\x4b\x67\x48"},
		"ab":         {api.Frame{Type: 7, Body: []byte("ab")}, "HW\x07\x02\x00\x00" + "\x80\xd0\x42\x7f" + "ab" + "\x6e\x22\xe9\x44"},
	} {
		b, e := frame.Encode(c.f)
		if e != api.OK || string(b) != c.want {
			t.Errorf("%s: %x, want %x; %d", name, b, c.want, e)
		}
	}
}

func TestEncodeByTheTable(t *testing.T) {
	r := rand.New(rand.NewSource(1))
	for _, n := range []int{0, 1, 2, 3, 9, 10, 13, 14, 255, 256, 257, 65535, 65536, 65537, most - 1, most} {
		body := randomBytes(r, n)
		for _, kind := range []int{1, 2, 0x48, 127, 128, 255} {
			b, e := frame.Encode(api.Frame{Type: kind, Body: body})
			if e != api.OK || len(b) != n+14 || !bytes.Equal(b, bytesOf(kind, body)) {
				t.Errorf("type %d, %d bytes: %d bytes, %d", kind, n, len(b), e)
			}
		}
	}
}

func TestEncodeRefuses(t *testing.T) {
	long := make([]byte, most+1)
	for name, c := range map[string]struct {
		f    api.Frame
		want api.Errno
	}{
		"type 0":                  {api.Frame{}, api.ErrFrameForm},
		"type 0, a body":          {api.Frame{Body: []byte("ab")}, api.ErrFrameForm},
		"type 256":                {api.Frame{Type: 256}, api.ErrFrameForm},
		"type 257":                {api.Frame{Type: 257}, api.ErrFrameForm},
		"type -1":                 {api.Frame{Type: -1}, api.ErrFrameForm},
		"type -255":               {api.Frame{Type: -255}, api.ErrFrameForm},
		"type, least":             {api.Frame{Type: math.MinInt}, api.ErrFrameForm},
		"type, greatest":          {api.Frame{Type: math.MaxInt}, api.ErrFrameForm},
		"too long":                {api.Frame{Type: 1, Body: long}, api.ErrFrameLong},
		"too long, type 255":      {api.Frame{Type: 255, Body: long}, api.ErrFrameLong},
		"far too long":            {api.Frame{Type: 1, Body: make([]byte, 1<<24)}, api.ErrFrameLong},
		"type 0 and too long":     {api.Frame{Type: 0, Body: long}, api.ErrFrameForm},
		"type 256 and too long":   {api.Frame{Type: 256, Body: long}, api.ErrFrameForm},
		"below nought, too long":  {api.Frame{Type: -1, Body: long}, api.ErrFrameForm},
		"a type of many, no body": {api.Frame{Type: 1 << 32}, api.ErrFrameForm},
	} {
		if b, e := frame.Encode(c.f); e != c.want || b != nil {
			t.Errorf("%s: %d bytes, %d", name, len(b), e)
		}
	}
}

// P4.2 and P4.3, each with the other's answer beside it.

type decoding struct {
	b    []byte
	want api.Errno
}

func (c decoding) refused(t *testing.T, name string) {
	t.Helper()
	if f, n, e := frame.Decode(c.b); e != c.want || n != 0 || !empty(f) {
		t.Errorf("Decode, %s: %v %d %d, want %d", name, f, n, e, c.want)
	}
	if f, e := frame.One(c.b); e != c.want || !empty(f) {
		t.Errorf("One, %s: %v %d, want %d", name, f, e, c.want)
	}
}

func TestDecodeRefuses(t *testing.T) {
	f := bytesOf(7, []byte("ab"))
	spoilt := turned(headOf(7, 2), 6*8)
	for name, c := range map[string]decoding{
		"nil":                          {nil, api.ErrFrameShort},
		"none":                         {[]byte{}, api.ErrFrameShort},
		"H":                            {[]byte("H"), api.ErrFrameShort},
		"HW":                           {[]byte("HW"), api.ErrFrameShort},
		"HW and a type 0":              {[]byte("HW\x00"), api.ErrFrameShort},
		"another first byte alone":     {[]byte("I"), api.ErrFrameMagic},
		"the second byte alone":        {[]byte("W"), api.ErrFrameMagic},
		"another second byte":          {[]byte("HX"), api.ErrFrameMagic},
		"another first byte":           {[]byte("IW"), api.ErrFrameMagic},
		"another first byte, ten":      {append([]byte("I"), headOf(7, 2)[1:]...), api.ErrFrameMagic},
		"another second byte, ten":     {append([]byte("HV"), headOf(7, 2)[2:]...), api.ErrFrameMagic},
		"another magic, a right sum":   {joined(summed('H', 'V', 7, 0, 0, 0), f[10:]), api.ErrFrameMagic},
		"another magic, a right frame": {summed(summed('I', 'W', 7, 0, 0, 0)...), api.ErrFrameMagic},
		"noughts":                      {append([]byte("HW"), make([]byte, 8)...), api.ErrFrameForm},
		"noughts, a frame's room":      {append([]byte("HW"), make([]byte, 99)...), api.ErrFrameForm},
		"type 0":                       {bytesOf(0, []byte("ab")), api.ErrFrameForm},
		"type 0, its head alone":       {headOf(0, 2), api.ErrFrameForm},
		"type 0, too long":             {headOf(0, most+1), api.ErrFrameForm},
		"another head's sum":           {joined(spoilt, f[10:]), api.ErrFrameForm},
		"another head's sum, alone":    {spoilt, api.ErrFrameForm},
		"another head's sum, too long": {turned(headOf(7, most+1), 79), api.ErrFrameForm},
		"a sum, highest byte first":    {joined(f[:6], []byte{f[9], f[8], f[7], f[6]}, f[10:]), api.ErrFrameForm},
		"one too long":                 {headOf(7, most+1), api.ErrFrameLong},
		"far too long":                 {headOf(255, 1<<24-1), api.ErrFrameLong},
		"too long, and all there":      {bytesOf(1, make([]byte, most+1)), api.ErrFrameLong},
		"a head alone":                 {headOf(7, 0), api.ErrFrameShort},
		"a head, the longest":          {headOf(7, most), api.ErrFrameShort},
		"all but a byte":               {f[:15], api.ErrFrameShort},
		"all but a byte, the longest":  {bytesOf(1, make([]byte, most))[:most+13], api.ErrFrameShort},
		"all but a byte, another sum":  {turned(f, 14*8)[:15], api.ErrFrameShort},
		"another sum":                  {turned(f, 15*8), api.ErrFrameSum},
		"another body":                 {turned(f, 11*8), api.ErrFrameSum},
		"another sum, bytes behind":    {append(turned(f, 12*8), 0), api.ErrFrameSum},
		"the sum of the body alone":    {joined(f[:10], summed('a', 'b')), api.ErrFrameSum},
		"the sum, highest byte first":  {joined(f[:12], []byte{f[15], f[14], f[13], f[12]}), api.ErrFrameSum},
		"one byte more in it":          {joined(f[:12], []byte{0}, f[12:]), api.ErrFrameSum},
	} {
		c.refused(t, name)
	}
}

func TestDecodeEveryFirstBytes(t *testing.T) {
	for first := range 256 {
		want := api.ErrFrameMagic
		if first == 0x48 {
			want = api.ErrFrameShort
		}
		decoding{[]byte{byte(first)}, want}.refused(t, "one byte")
		for second := range 256 {
			both := want
			if second != 0x57 {
				both = api.ErrFrameMagic
			}
			decoding{[]byte{byte(first), byte(second)}, both}.refused(t, "two bytes")
		}
	}
}

func TestDecodeCutAnywhere(t *testing.T) {
	for _, body := range []string{"", "a", "ab", string(make([]byte, 300))} {
		b := bytesOf(9, []byte(body))
		for n := range b {
			decoding{b[:n:n], api.ErrFrameShort}.refused(t, "cut")
			// What lies in the room behind the list's end is none of it.
			decoding{b[:n], api.ErrFrameShort}.refused(t, "cut, with room")
		}
	}
}

func TestDecodeTakes(t *testing.T) {
	r := rand.New(rand.NewSource(2))
	for _, n := range []int{0, 1, 2, 100, 255, 256, 65536, most - 1, most} {
		for _, kind := range []int{1, 0x57, 255} {
			want := api.Frame{Type: kind, Body: randomBytes(r, n)}
			b := bytesOf(kind, want.Body)
			for _, behind := range [][]byte{nil, {0}, []byte("H"), b[:5], bytesOf(3, []byte("c"))} {
				all := joined(b, behind)
				f, size, e := frame.Decode(all)
				if e != api.OK || size != n+14 || !same(f, want) {
					t.Errorf("type %d, %d bytes, %d behind: type %d, %d, %d", kind, n, len(behind), f.Type, size, e)
				}
				if g, e := frame.One(all); len(behind) == 0 && (e != api.OK || !same(g, want)) {
					t.Errorf("One, type %d, %d bytes: type %d, %d", kind, n, g.Type, e)
				} else if len(behind) > 0 && (e != api.ErrFrameTail || !empty(g)) {
					t.Errorf("One, %d behind: %v %d", len(behind), g, e)
				}
			}
		}
	}
}

// decodeByWords: P4.2 as it is written, and nothing shared with the program.
func decodeByWords(b []byte) (api.Frame, int, api.Errno) {
	none := api.Frame{}
	if len(b) > 0 && b[0] != 0x48 || len(b) > 1 && b[1] != 0x57 {
		return none, 0, api.ErrFrameMagic
	}
	if len(b) < 10 {
		return none, 0, api.ErrFrameShort
	}
	if crc32.Checksum(b[:6], castagnoli) != binary.LittleEndian.Uint32(b[6:]) || b[2] == 0 {
		return none, 0, api.ErrFrameForm
	}
	length := int(b[3]) + 256*int(b[4]) + 65536*int(b[5])
	if length > 1048576 {
		return none, 0, api.ErrFrameLong
	}
	if len(b) < length+14 {
		return none, 0, api.ErrFrameShort
	}
	if crc32.Checksum(b[:length+10], castagnoli) != binary.LittleEndian.Uint32(b[length+10:]) {
		return none, 0, api.ErrFrameSum
	}
	return api.Frame{Type: int(b[2]), Body: b[10 : length+10]}, length + 14, api.OK
}

func TestDecodeByWords(t *testing.T) {
	r := rand.New(rand.NewSource(3))
	met := map[api.Errno]int{}
	for range 200000 {
		b := mangled(r)
		f, n, e := frame.Decode(b)
		met[e]++
		if g, m, want := decodeByWords(b); e != want || n != m || !same(f, g) {
			t.Fatalf("%x: %v %d %d, want %v %d %d", b, f, n, e, g, m, want)
		}
		if e == api.OK && !bytes.Equal(encoded(t, f), b[:n]) { // P4.9
			t.Fatalf("%x: not what Encode writes", b)
		}
	}
	for _, e := range []api.Errno{api.OK, api.ErrFrameShort, api.ErrFrameMagic, api.ErrFrameForm, api.ErrFrameLong, api.ErrFrameSum} {
		if met[e] < 100 {
			t.Errorf("the error %d was met %d times", e, met[e])
		}
	}
}

// mangled: bytes that are nearly a frame, or are one.
func mangled(r *rand.Rand) []byte {
	body := randomBytes(r, r.Intn(20))
	b := bytesOf(r.Intn(256), body)
	switch r.Intn(6) {
	case 0:
		b = b[:r.Intn(len(b))]
	case 1:
		b = append(b, randomBytes(r, r.Intn(5))...)
	case 2:
		b[r.Intn(len(b))] = byte(r.Intn(256))
	case 3:
		b = joined(headOf(r.Intn(4), r.Intn(1<<24)), body)
	case 4:
		b = joined(headOf(r.Intn(4), r.Intn(20)), body, randomBytes(r, 4))
	}
	return b
}

// P4.9

func TestThereAndBack(t *testing.T) {
	r := rand.New(rand.NewSource(4))
	var all [][]byte
	for range 300 {
		f := api.Frame{Type: 1 + r.Intn(255), Body: randomBytes(r, r.Intn(12))}
		b := encoded(t, f)
		all = append(all, b)
		behind := randomBytes(r, r.Intn(40))
		if g, n, e := frame.Decode(joined(b, behind)); e != api.OK || n != len(b) || !same(f, g) {
			t.Fatalf("%v: %v %d %d", f, g, n, e)
		}
		if g, e := frame.One(b); e != api.OK || !same(f, g) {
			t.Fatalf("One, %v: %v %d", f, g, e)
		}
	}
	for kind := 1; kind < 256; kind++ {
		all = append(all, encoded(t, api.Frame{Type: kind}))
	}
	for i, a := range all {
		for j, b := range all {
			if i != j && bytes.HasPrefix(b, a) && !bytes.Equal(a, b) {
				t.Fatalf("%x is the beginning of %x", a, b)
			}
			if i != j && bytes.Equal(a, b) {
				f, _ := frame.One(a)
				g, _ := frame.One(b)
				if !same(f, g) {
					t.Fatalf("%v and %v have one form", f, g)
				}
			}
		}
	}
}

// R3

func TestArgumentsStay(t *testing.T) {
	body := []byte("abcdef")
	f := api.Frame{Type: 3, Body: body[:3]}
	encoded(t, f)
	if string(body) != "abcdef" {
		t.Errorf("Encode has changed its body's bytes, or those behind: %s", body)
	}
	b := joined(bytesOf(3, []byte("abc")), []byte("behind"))
	was := bytes.Clone(b)
	frame.Decode(b[:len(b)-6])
	frame.One(b[:len(b)-6])
	frame.Decode(b[:7])
	frame.One(b)
	if !bytes.Equal(b, was) {
		t.Errorf("Decode or One have changed their bytes")
	}
}

func TestAnswersAreNew(t *testing.T) {
	body := []byte("abc")
	b := encoded(t, api.Frame{Type: 3, Body: body})
	was := bytes.Clone(b)
	f, _, _ := frame.Decode(b)
	g, _ := frame.One(b)
	fill(body, 'x')
	if !bytes.Equal(b, was) {
		t.Errorf("what Encode answered has changed with its body")
	}
	fill(b, 0)
	if string(f.Body) != "abc" || string(g.Body) != "abc" {
		t.Errorf("what Decode and One answered has changed with their bytes: %v %v", f, g)
	}
	c := bytes.Clone(was)
	f, _, _ = frame.Decode(c)
	g, _ = frame.One(c)
	fill(f.Body, 'y')
	fill(g.Body, 'z')
	if !bytes.Equal(c, was) {
		t.Errorf("bodies lie within the bytes that were handed in")
	}
	if a := encoded(t, api.Frame{Type: 3, Body: g.Body}); len(a) > 0 {
		fill(a, 1)
		if string(g.Body) != "zzz" {
			t.Errorf("what Encode answers lies within its body")
		}
	}
}

// fill writes over b, and over the room behind its end.
func fill(b []byte, c byte) {
	b = b[:cap(b)]
	for i := range b {
		b[i] = c
	}
}
