package frame_test

import (
	"bytes"
	"math"
	"math/rand"
	"runtime"
	"testing"

	"hawser/api"
	"hawser/frame"
)

// look is what is to be seen of a Splitter.
type look struct {
	found             []api.Frame
	waits, junk, lost int
}

func (a look) same(b look) bool {
	if len(a.found) != len(b.found) || a.waits != b.waits || a.junk != b.junk || a.lost != b.lost {
		return false
	}
	for i := range a.found {
		if !same(a.found[i], b.found[i]) {
			return false
		}
	}
	return true
}

func (a look) counts() [4]int { return [4]int{len(a.found), a.waits, a.junk, a.lost} }

func made(t *testing.T, most int) *frame.Splitter {
	t.Helper()
	s, e := frame.New(most)
	if s == nil || e != api.OK {
		t.Fatalf("New(%d): %v %d", most, s, e)
	}
	return s
}

// seen is a Splitter's look when it has found these, till now.
func seen(s *frame.Splitter, found []api.Frame) look {
	return look{found, s.Waits(), s.Junk(), s.Lost()}
}

// splitByWords: the chapter's six rules over a whole stream, and nothing shared
// with the program.
func splitByWords(stream []byte, most int, ended bool) look {
	var l look
	at := 0
	for at < len(stream) {
		f, n, e := decodeByWords(stream[at:])
		long := e == api.ErrFrameLong
		if b := stream[at:]; len(b) >= 10 && e != api.ErrFrameMagic && e != api.ErrFrameForm {
			long = long || int(b[3])+256*int(b[4])+65536*int(b[5]) > most
		}
		switch {
		case e == api.OK && !long:
			l.found = append(l.found, f)
			at += n
			continue
		case e == api.ErrFrameShort && !long && !ended:
			l.waits = len(stream) - at
			return l
		case e == api.ErrFrameSum && !long:
			l.lost++
		}
		l.junk++
		at++
	}
	return l
}

// P4.4

func TestNew(t *testing.T) {
	for _, n := range []int{-1, -2, most + 1, 1 << 24, math.MinInt, math.MaxInt, math.MaxInt - 14} {
		if s, e := frame.New(n); s != nil || e != api.ErrArg {
			t.Errorf("New(%d): %v %d", n, s, e)
		}
	}
	for _, n := range []int{0, 1, 2, most - 1, most} {
		s := made(t, n)
		if l := seen(s, s.Feed(nil)); !l.same(look{}) {
			t.Errorf("New(%d) has %v", n, l.counts())
		}
		if l := seen(s, s.End()); !l.same(look{}) {
			t.Errorf("New(%d) behind End: %v", n, l.counts())
		}
	}
}

// P4.5 to P4.7, by hand

func TestSplitterSteps(t *testing.T) {
	f := string(bytesOf(7, []byte("ab")))
	bare := string(bytesOf(1, nil))
	lost := string(turned([]byte(f), 15*8))
	inner := string(bytesOf(5, []byte(bare)))
	around := string(turned(bytesOf(9, []byte("x"+bare+f)), 10*8))
	head := func(kind, length int) string { return string(headOf(kind, length)) }
	for name, c := range map[string]struct {
		most   int
		stream string
		feed   [4]int // found, waits, junk, lost
		end    [4]int // the same, when it is over
	}{
		"nothing":                     {2, "", [4]int{}, [4]int{}},
		"a frame":                     {2, f, [4]int{1, 0, 0, 0}, [4]int{1, 0, 0, 0}},
		"a frame but for a byte":      {2, f[:15], [4]int{0, 15, 0, 0}, [4]int{0, 0, 15, 0}},
		"a head":                      {2, f[:10], [4]int{0, 10, 0, 0}, [4]int{0, 0, 10, 0}},
		"a head but for a byte":       {2, f[:9], [4]int{0, 9, 0, 0}, [4]int{0, 0, 9, 0}},
		"a body that is too long":     {1, f, [4]int{0, 0, 16, 0}, [4]int{0, 0, 16, 0}},
		"its head":                    {1, f[:10], [4]int{0, 0, 10, 0}, [4]int{0, 0, 10, 0}},
		"its head but for a byte":     {1, f[:9], [4]int{0, 9, 0, 0}, [4]int{0, 0, 9, 0}},
		"another sum":                 {2, lost, [4]int{0, 0, 16, 1}, [4]int{0, 0, 16, 1}},
		"another sum, one byte less":  {2, lost[:15], [4]int{0, 15, 0, 0}, [4]int{0, 0, 15, 0}},
		"another sum, and too long":   {1, lost, [4]int{0, 0, 16, 0}, [4]int{0, 0, 16, 0}},
		"H":                           {2, "H", [4]int{0, 1, 0, 0}, [4]int{0, 0, 1, 0}},
		"Hx":                          {2, "Hx", [4]int{0, 0, 2, 0}, [4]int{0, 0, 2, 0}},
		"HH":                          {2, "HH", [4]int{0, 1, 1, 0}, [4]int{0, 0, 2, 0}},
		"HHW":                         {2, "HHW", [4]int{0, 2, 1, 0}, [4]int{0, 0, 3, 0}},
		"HW":                          {2, "HW", [4]int{0, 2, 0, 0}, [4]int{0, 0, 2, 0}},
		"WH":                          {2, "WH", [4]int{0, 1, 1, 0}, [4]int{0, 0, 2, 0}},
		"junk":                        {2, "xyz", [4]int{0, 0, 3, 0}, [4]int{0, 0, 3, 0}},
		"HW and noughts":              {2, "HW\x00\x00\x00\x00\x00\x00\x00\x00", [4]int{0, 0, 10, 0}, [4]int{0, 0, 10, 0}},
		"type 0":                      {2, string(bytesOf(0, []byte("ab"))), [4]int{0, 0, 16, 0}, [4]int{0, 0, 16, 0}},
		"type 0, another sum":         {2, string(turned(bytesOf(0, []byte("ab")), 15*8)), [4]int{0, 0, 16, 0}, [4]int{0, 0, 16, 0}},
		"a frame of no body, most 0":  {0, bare, [4]int{1, 0, 0, 0}, [4]int{1, 0, 0, 0}},
		"a body of one, most 0":       {0, string(bytesOf(1, []byte("a"))), [4]int{0, 0, 15, 0}, [4]int{0, 0, 15, 0}},
		"two frames":                  {2, f + bare, [4]int{2, 0, 0, 0}, [4]int{2, 0, 0, 0}},
		"junk between":                {2, "xHy" + f + "HWH" + bare + "H", [4]int{2, 1, 6, 0}, [4]int{2, 0, 7, 0}},
		"the same frame three times":  {2, f + f + f, [4]int{3, 0, 0, 0}, [4]int{3, 0, 0, 0}},
		"a frame within one":          {14, inner, [4]int{1, 0, 0, 0}, [4]int{1, 0, 0, 0}},
		"a frame within a long one":   {13, inner, [4]int{1, 0, 14, 0}, [4]int{1, 0, 14, 0}},
		"two within a lost one":       {99, around, [4]int{2, 0, 15, 1}, [4]int{2, 0, 15, 1}},
		"two within, all but a byte":  {99, around[:44], [4]int{0, 44, 0, 0}, [4]int{2, 0, 14, 0}},
		"one within what is cut off":  {99, around[:26], [4]int{0, 26, 0, 0}, [4]int{1, 0, 12, 0}},
		"a head ahead of a frame":     {20, head(1, 20) + f, [4]int{0, 26, 0, 0}, [4]int{1, 0, 10, 0}},
		"too long a head, then one":   {19, head(1, 20) + f, [4]int{1, 0, 10, 0}, [4]int{1, 0, 10, 0}},
		"heads, one in the other":     {99, head(1, 20) + head(2, 30) + head(3, 40), [4]int{0, 30, 0, 0}, [4]int{0, 0, 30, 0}},
		"lost, and another one waits": {99, head(1, 2) + head(2, 30), [4]int{0, 10, 10, 1}, [4]int{0, 0, 20, 1}},
		"an end that begins a frame":  {99, f[:8] + f[:8], [4]int{0, 8, 8, 0}, [4]int{0, 0, 16, 0}},
		"frames behind a cut one":     {99, f[:12] + f + f, [4]int{2, 0, 12, 1}, [4]int{2, 0, 12, 1}},
		"the head of a longest":       {most, head(1, most), [4]int{0, 10, 0, 0}, [4]int{0, 0, 10, 0}},
		"one too long for any":        {most, head(1, most+1), [4]int{0, 0, 10, 0}, [4]int{0, 0, 10, 0}},
	} {
		s := made(t, c.most)
		l := seen(s, s.Feed([]byte(c.stream)))
		if l.counts() != c.feed || !l.same(splitByWords([]byte(c.stream), c.most, false)) {
			t.Errorf("%s: %v, want %v", name, l.counts(), c.feed)
		}
		l = seen(s, append(l.found, s.End()...))
		if l.counts() != c.end || !l.same(splitByWords([]byte(c.stream), c.most, true)) {
			t.Errorf("%s, behind End: %v, want %v", name, l.counts(), c.end)
		}
	}
}

func TestFoundInOrder(t *testing.T) {
	var stream []byte
	for i := 1; i < 256; i++ {
		stream = append(stream, bytesOf(i, bytes.Repeat([]byte{byte(i)}, i%7))...)
	}
	for i, f := range made(t, 6).Feed(stream) {
		if f.Type != i+1 || !bytes.Equal(f.Body, bytes.Repeat([]byte{byte(i + 1)}, (i+1)%7)) {
			t.Fatalf("frame %d: %v", i, f)
		}
	}
}

// P4.6: behind End a new stream begins, and nothing of the old one stands ahead of it.

func TestStreamsBehindEnd(t *testing.T) {
	f := bytesOf(7, []byte("ab"))
	s := made(t, 2)
	for cut := range f {
		a, b := s.Feed(f[:cut]), s.End()
		if len(a)+len(b) != 0 || s.Waits() != 0 {
			t.Fatalf("cut at %d: %v %v, waits %d", cut, a, b, s.Waits())
		}
		if a := s.Feed(f[cut:]); len(a) > 0 && cut > 0 {
			t.Fatalf("cut at %d, a frame over two streams: %v", cut, a)
		}
		s.End()
		if a := s.Feed(f); len(a) != 1 || a[0].Type != 7 || string(a[0].Body) != "ab" || s.Waits() != 0 {
			t.Fatalf("cut at %d, the next stream: %v", cut, a)
		}
	}
	if want := 15 * 16; s.Junk() != want || s.Lost() != 0 {
		t.Errorf("in all: junk %d, want %d, lost %d", s.Junk(), want, s.Lost())
	}
	s.Feed(turned(f, 15*8))
	s.End()
	s.Feed(turned(f, 14*8))
	if s.Junk() != 17*16 || s.Lost() != 2 {
		t.Errorf("counting goes on: junk %d, lost %d", s.Junk(), s.Lost())
	}
	if a, b := s.End(), s.End(); len(a)+len(b) != 0 || s.Junk() != 17*16 || s.Lost() != 2 || s.Waits() != 0 {
		t.Errorf("End of nothing: %v %v %v", a, b, seen(s, nil).counts())
	}
}

// P4.7

func TestCountsChangeNothing(t *testing.T) {
	f := bytesOf(7, []byte("ab"))
	s := made(t, 2)
	s.Feed(joined([]byte("x"), turned(f, 15*8), f[:11]))
	for range 5 {
		if l := seen(s, nil); l.counts() != [4]int{0, 11, 17, 1} {
			t.Fatalf("%v", l.counts())
		}
	}
	if a := s.Feed(f[11:]); len(a) != 1 || s.Waits() != 0 {
		t.Errorf("behind them: %v, waits %d", a, s.Waits())
	}
}

func TestWaitsFewerThanAFrame(t *testing.T) {
	for _, n := range []int{0, 1, 2, 700, 70000, most} {
		b := bytesOf(1, make([]byte, n))
		s := made(t, n)
		if a := s.Feed(b[:n+13]); len(a) != 0 || s.Waits() != n+13 {
			t.Errorf("most %d: %d found, waits %d", n, len(a), s.Waits())
		}
		if a := s.Feed(b[n+13:]); len(a) != 1 || s.Waits() != 0 {
			t.Errorf("most %d: %d found, waits %d", n, len(a), s.Waits())
		}
	}
}

// P4.8, R5

func TestUnmade(t *testing.T) {
	f := bytesOf(7, []byte("ab"))
	var none *frame.Splitter
	for name, s := range map[string]*frame.Splitter{"nil": none, "zero": {}, "new": new(frame.Splitter)} {
		for range 2 {
			for _, b := range [][]byte{nil, f, f[:9], []byte("xH"), turned(f, 15*8)} {
				if a := s.Feed(b); len(a) != 0 {
					t.Errorf("%s: Feed %v", name, a)
				}
				if l := seen(s, s.End()); !l.same(look{}) {
					t.Errorf("%s: %v", name, l.counts())
				}
			}
		}
		if s != nil && !sameSplitter(s) {
			t.Errorf("%s has become something", name)
		}
	}
}

// sameSplitter: is it a zero value still? It then finds nothing when copied.
func sameSplitter(s *frame.Splitter) bool {
	c := *s
	return len(c.Feed(bytesOf(1, nil))) == 0 && c.Waits()+c.Junk()+c.Lost() == 0
}

// P4.10

// fragment: something that stands in streams, right or wrong.
func fragment(r *rand.Rand, deep int) []byte {
	body := []byte{}
	for deep > 0 && r.Intn(3) > 0 {
		body = append(body, fragment(r, deep-1)...)
	}
	kind := r.Intn(3)
	switch r.Intn(9) {
	case 0:
		return randomBytes(r, r.Intn(8))
	case 1:
		return []byte("HWH")[r.Intn(3):]
	case 2:
		return headOf(kind, r.Intn(40))
	case 3:
		b := bytesOf(kind, body)
		return turned(b, r.Intn(8*len(b)))
	case 4:
		b := bytesOf(kind, body)
		return b[:r.Intn(len(b))]
	case 5:
		b := bytesOf(kind, body)
		return append(b[:len(b)-4], randomBytes(r, 4)...)
	}
	return bytesOf(kind+1, body)
}

func randomStream(r *rand.Rand) []byte {
	var b []byte
	for range r.Intn(8) {
		b = append(b, fragment(r, 3)...)
	}
	return b
}

func bytesFound(found []api.Frame) int {
	n := 0
	for _, f := range found {
		n += len(f.Body) + 14
	}
	return n
}

func TestCutAnywhere(t *testing.T) {
	r := rand.New(rand.NewSource(5))
	for range 3000 {
		stream, n := randomStream(r), r.Intn(60)
		want, over := splitByWords(stream, n, false), splitByWords(stream, n, true)
		for way := range 4 {
			s := made(t, n)
			var found []api.Frame
			for at := 0; at < len(stream); {
				next := at + piece(r, way, len(stream)-at)
				found = append(found, s.Feed(stream[at:next])...)
				at = next
				l := seen(s, found)
				if way < 2 && !l.same(splitByWords(stream[:at], n, false)) {
					t.Fatalf("most %d, %x, up to %d: %v", n, stream, at, l.counts())
				}
				if bytesFound(found)+l.junk+l.waits != at || l.waits >= n+14 {
					t.Fatalf("most %d, %x, up to %d: %v are not all bytes", n, stream, at, l.counts())
				}
			}
			if l := seen(s, found); !l.same(want) {
				t.Fatalf("most %d, %x, way %d: %v, want %v", n, stream, way, l.counts(), want.counts())
			}
			found = append(found, s.End()...)
			if l := seen(s, found); !l.same(over) || bytesFound(found)+l.junk != len(stream) {
				t.Fatalf("most %d, %x, way %d, behind End: %v, want %v", n, stream, way, l.counts(), over.counts())
			}
		}
	}
}

// piece: how many bytes come next: one, none to some, some, or all of the rest.
func piece(r *rand.Rand, way, rest int) int {
	switch way {
	case 0:
		return 1
	case 1:
		return min(rest, r.Intn(4))
	case 2:
		return 1 + r.Intn(rest)
	}
	return rest
}

// One Splitter for many streams, so that what one leaves behind would be seen.
func TestManyStreams(t *testing.T) {
	r := rand.New(rand.NewSource(6))
	s := made(t, 50)
	junk, lost := 0, 0
	for range 3000 {
		stream := randomStream(r)
		want := splitByWords(stream, 50, true)
		var found []api.Frame
		for at := 0; at < len(stream); {
			next := at + piece(r, 1+r.Intn(3), len(stream)-at)
			found = append(found, s.Feed(stream[at:next])...)
			at = next
		}
		found = append(found, s.End()...)
		junk, lost = junk+want.junk, lost+want.lost
		want.junk, want.lost = junk, lost
		if l := seen(s, found); !l.same(want) {
			t.Fatalf("%x: %v, want %v", stream, l.counts(), want.counts())
		}
	}
}

// Long streams: bodies of more than some hundred bytes, up to the longest.

func TestLongStreams(t *testing.T) {
	r := rand.New(rand.NewSource(7))
	for range 40 {
		var stream []byte
		for range 4 {
			body := randomBytes(r, r.Intn(3000))
			for range 6 {
				copy(body[r.Intn(len(body)+1):], headOf(1+r.Intn(9), r.Intn(2500)))
			}
			inner := bytesOf(4, body)
			b := bytesOf(3, joined(randomBytes(r, r.Intn(700)), inner, randomBytes(r, r.Intn(700))))
			if r.Intn(2) == 0 {
				b = turned(b, 80+r.Intn(8*len(b)-80))
			}
			stream = append(append(stream, b...), randomBytes(r, r.Intn(100))...)
		}
		want, over := splitByWords(stream, 4096, false), splitByWords(stream, 4096, true)
		for _, step := range []int{1, 7, 64, 513, len(stream)} {
			s := made(t, 4096)
			var found []api.Frame
			for at := 0; at < len(stream); at += step {
				found = append(found, s.Feed(stream[at:min(at+step, len(stream))])...)
			}
			if l := seen(s, found); !l.same(want) {
				t.Fatalf("by %d: %v, want %v", step, l.counts(), want.counts())
			}
			if l := seen(s, append(found, s.End()...)); !l.same(over) {
				t.Fatalf("by %d, behind End: %v, want %v", step, l.counts(), over.counts())
			}
		}
	}
}

func TestLongest(t *testing.T) {
	r := rand.New(rand.NewSource(8))
	body := randomBytes(r, most)
	f := bytesOf(200, body)
	for _, step := range []int{1, 1000, 1 << 16, 1<<16 + 1, len(f)} {
		s := made(t, most)
		var found []api.Frame
		for at := 0; at < len(f); at += step {
			if s.Waits() != at {
				t.Fatalf("by %d, at %d: waits %d", step, at, s.Waits())
			}
			found = append(found, s.Feed(f[at:min(at+step, len(f))])...)
		}
		if l := seen(s, found); !l.same(look{found: []api.Frame{{Type: 200, Body: body}}}) {
			t.Errorf("by %d: %v", step, l.counts())
		}
	}
	s := made(t, most-1)
	if l := seen(s, s.Feed(joined(f, f))); len(l.found) != 0 || l.junk+l.waits != 2*len(f) {
		t.Errorf("one byte too long: %v", l.counts())
	}
	s = made(t, most)
	spoilt := joined(f[:len(f)-4], []byte("xxxx"), bytesOf(1, []byte("behind")))
	if l := seen(s, append(s.Feed(spoilt), s.End()...)); l.lost < 1 || len(l.found) != 1 || string(l.found[0].Body) != "behind" {
		t.Errorf("spoilt: %v", l.counts())
	}
}

// P4.11

func TestFramesAreFound(t *testing.T) {
	r := rand.New(rand.NewSource(9))
	for range 300 {
		n := r.Intn(80)
		var all []api.Frame
		var stream []byte
		for range r.Intn(20) {
			f := api.Frame{Type: 1 + r.Intn(255), Body: randomBytes(r, r.Intn(n+1))}
			if r.Intn(3) == 0 { // bodies that look like frames
				f.Body = joined(bytesOf(1, nil), headOf(1, 500), []byte("HW"))[:min(n, 26)]
			}
			all, stream = append(all, f), append(stream, encoded(t, f)...)
		}
		s := made(t, n)
		if l := seen(s, s.Feed(stream)); !l.same(look{found: all}) {
			t.Fatalf("most %d: %v of %d", n, l.counts(), len(all))
		}
		ahead := randomBytes(r, r.Intn(99))
		for i := range ahead {
			if ahead[i] == 0x48 {
				ahead[i] = 0x57
			}
		}
		s = made(t, n)
		if l := seen(s, s.Feed(joined(ahead, stream))); !l.same(look{found: all, junk: len(ahead)}) {
			t.Fatalf("most %d, %d ahead: %v of %d", n, len(ahead), l.counts(), len(all))
		}
	}
}

// What is within frames that are lost is looked through, and that ends soon
// however many of them lie in one another.

func TestNestedAndLost(t *testing.T) {
	const deep = 1 << 16
	var heads, tails []byte
	for i := range deep {
		heads = append(heads, headOf(1+i%255, 14*(deep-1-i)+20)...)
		tails = append(tails, "tail"...)
	}
	kernel := bytesOf(9, []byte("kernel")) // 20 bytes
	stream := joined(heads, kernel, tails)
	for name, feed := range map[string]func(*frame.Splitter) []api.Frame{
		"at once":          func(s *frame.Splitter) []api.Frame { return s.Feed(stream) },
		"byte by byte":     func(s *frame.Splitter) []api.Frame { return bytewise(s, stream) },
		"in larger pieces": func(s *frame.Splitter) []api.Frame { return append(s.Feed(stream[:1<<19]), s.Feed(stream[1<<19:])...) },
	} {
		s := made(t, most)
		l := seen(s, append(feed(s), s.End()...))
		if l.counts() != [4]int{1, 0, 14 * deep, deep} || string(l.found[0].Body) != "kernel" {
			t.Errorf("%s: %v", name, l.counts())
		}
	}
}

func bytewise(s *frame.Splitter, b []byte) []api.Frame {
	var found []api.Frame
	for i := range b {
		found = append(found, s.Feed(b[i:i+1])...)
	}
	return found
}

// Each byte that comes ends a frame that is lost, and a megabyte waits meanwhile.
func TestLostByEachByte(t *testing.T) {
	const many = 20000
	var heads []byte
	for i := range many {
		heads = append(heads, headOf(1, 600000-9*i)...) // the i-th one ends a byte behind the one ahead
	}
	stream := append(heads, make([]byte, 600014+many-len(heads)-1)...)
	s := made(t, most)
	found := s.Feed(stream[:600013])
	if len(found) != 0 || s.Waits() != 600013 {
		t.Fatalf("%d found, waits %d", len(found), s.Waits())
	}
	for i, c := range stream[600013:] {
		if found := s.Feed([]byte{c}); len(found) != 0 || s.Lost() != i+1 {
			t.Fatalf("byte %d: %d found, lost %d", i, len(found), s.Lost())
		}
	}
	if s.Waits() != 0 || s.Junk() != len(stream) {
		t.Errorf("%v", seen(s, nil).counts())
	}
}

// P4.12, G2

// spoiltIsTold: of f's bytes with these bits turned, nothing is taken for it.
func spoiltIsTold(t *testing.T, f api.Frame, b []byte, bits ...int) {
	t.Helper()
	c := turned(b, bits...)
	if g, n, e := frame.Decode(c); e == api.OK || n != 0 || !empty(g) {
		t.Fatalf("%v, bits %v: Decode %v %d %d", f, bits, g, n, e)
	}
	if g, e := frame.One(c); e == api.OK || !empty(g) {
		t.Fatalf("%v, bits %v: One %v %d", f, bits, g, e)
	}
	s := made(t, most)
	found := append(s.Feed(c), s.End()...)
	if len(found) > 0 && bytes.IndexByte(c[1:], 0x48) < 0 {
		t.Fatalf("%v, bits %v: found %v", f, bits, found)
	}
	for _, g := range found {
		if same(f, g) || g.Type == f.Type && len(g.Body) == len(f.Body) {
			t.Fatalf("%v, bits %v: found %v", f, bits, g)
		}
	}
	if bytesFound(found)+s.Junk() != len(c) || s.Waits() != 0 {
		t.Fatalf("%v, bits %v: %v", f, bits, seen(s, found).counts())
	}
}

func TestFewBitsTurned(t *testing.T) {
	for _, f := range []api.Frame{{Type: 7, Body: []byte("a")}, {Type: 0x48, Body: nil}} {
		b := encoded(t, f)
		n := 8 * len(b)
		for i := range n {
			spoiltIsTold(t, f, b, i)
			for j := range i {
				spoiltIsTold(t, f, b, i, j)
				for k := range j {
					spoiltIsTold(t, f, b, i, j, k)
				}
			}
		}
	}
}

func TestFewBitsOfMany(t *testing.T) {
	r := rand.New(rand.NewSource(10))
	for _, n := range []int{20, 200, 2000, 20000} {
		f := api.Frame{Type: 1 + r.Intn(255), Body: joined(bytesOf(3, randomBytes(r, n/3)), randomBytes(r, n))}
		b := encoded(t, f)
		for range 300 {
			bits := r.Perm(8 * len(b))[:1+r.Intn(3)]
			spoiltIsTold(t, f, b, bits...)
			// One in the head and two behind it: there each of the sums has its part.
			spoiltIsTold(t, f, b, r.Intn(80), 80+r.Intn(8*len(b)-80))
		}
	}
}

func TestNeighboursTurned(t *testing.T) {
	r := rand.New(rand.NewSource(11))
	for _, f := range []api.Frame{{Type: 7, Body: []byte("ab")}, {Type: 1, Body: joined(bytesOf(2, []byte("in")), []byte("HW"))}} {
		b := encoded(t, f)
		for first := range 8 * len(b) {
			for range 60 {
				bits := []int{first}
				for i := first + 1; i < min(first+32, 8*len(b)); i++ {
					if r.Intn(2) == 0 {
						bits = append(bits, i)
					}
				}
				spoiltIsTold(t, f, b, bits...)
			}
			all := make([]int, min(32, 8*len(b)-first))
			for i := range all {
				all[i] = first + i
			}
			spoiltIsTold(t, f, b, all...)
		}
	}
}

// A body may hold frames: they are found where the one around them is lost.
func TestWithinTheSpoilt(t *testing.T) {
	inner := api.Frame{Type: 5, Body: []byte("in")}
	f := api.Frame{Type: 7, Body: joined([]byte("a"), bytesOf(5, []byte("in")), []byte("b"))}
	b := encoded(t, f)
	for bit := range 8 * len(b) {
		s := made(t, most)
		found := append(s.Feed(turned(b, bit)), s.End()...)
		if within := bit/8 >= 11 && bit/8 < 27; within && len(found) != 0 || !within && (len(found) != 1 || !same(found[0], inner)) {
			t.Fatalf("bit %d: %v", bit, found)
		}
	}
}

// R3

func TestFedBytesAreNotKept(t *testing.T) {
	f := bytesOf(7, []byte("ab"))
	for cut := range len(f) + 1 {
		s := made(t, 2)
		room := append(bytes.Clone(f[:cut]), "behind"...)
		found := s.Feed(room[:cut])
		if !bytes.Equal(room, joined(f[:cut], []byte("behind"))) {
			t.Fatalf("cut at %d: Feed has changed its bytes, or those behind", cut)
		}
		fill(room, 'H')
		rest := bytes.Clone(f[cut:])
		found = append(found, s.Feed(rest)...)
		fill(rest, 0)
		if l := seen(s, found); !l.same(look{found: []api.Frame{{Type: 7, Body: []byte("ab")}}}) {
			t.Fatalf("cut at %d: %v", cut, l)
		}
	}
}

func TestFoundIsTheCallers(t *testing.T) {
	f, g := bytesOf(7, []byte("ab")), bytesOf(8, []byte("cd"))
	s := made(t, 99)
	first := s.Feed(joined(f, g, f[:13]))
	if len(first) != 2 {
		t.Fatal(first)
	}
	fill(first[0].Body, 'x')
	if string(first[1].Body) != "cd" {
		t.Errorf("two bodies of one answer share their bytes: %v", first)
	}
	for i := range first[:cap(first)] {
		first[:cap(first)][i] = api.Frame{Type: 99}
	}
	second := s.Feed(joined(f[13:], g, headOf(1, 90), f))
	if len(second) != 2 || string(second[0].Body) != "ab" || string(second[1].Body) != "cd" {
		t.Errorf("what was written over an answer is seen in the next one: %v", second)
	}
	fill(second[0].Body, 'y')
	fill(second[1].Body, 'y')
	third := s.End()
	if len(third) != 1 || string(third[0].Body) != "ab" {
		t.Errorf("End: %v", third)
	}
	fill(third[0].Body, 'z')
	s.Feed(joined(g, g))
	s.End()
	if first[0].Type != 99 || string(second[0].Body) != "yy" || string(third[0].Body) != "zz" {
		t.Errorf("answers have changed later: %v %v %v", first, second, third)
	}
}

// What is kept is what waits, and not all that came.

func TestKeepsLittle(t *testing.T) {
	s := made(t, most)
	piece := joined(make([]byte, 1<<20), bytesOf(1, make([]byte, 1<<19)), []byte("HW"))
	start := heap()
	for i := range 32 {
		if i%2 == 0 {
			s.Feed(piece)
		} else {
			bytewise(s, piece[len(piece)-1<<18:])
		}
		if grown := heap() - start; grown > 8<<20 {
			t.Fatalf("behind %d pieces: %d bytes are kept, %d wait", i+1, grown, s.Waits())
		}
	}
	s.End()
	s.Feed(bytesOf(1, make([]byte, most))[:most])
	s.End()
	if grown := heap() - start; grown > 1<<19 {
		t.Errorf("behind End: %d bytes are kept", grown)
	}
	runtime.KeepAlive(s)
	runtime.KeepAlive(piece)
}

// heap is how many bytes are in use.
func heap() int {
	var m runtime.MemStats
	runtime.GC()
	runtime.ReadMemStats(&m)
	return int(m.HeapAlloc)
}

// R4

func TestSplittersAreApart(t *testing.T) {
	f := bytesOf(7, []byte("ab"))
	a, b := made(t, 2), made(t, 2)
	a.Feed(f[:9])
	b.Feed(joined([]byte("xx"), f[:5]))
	if x, y := a.Feed(f[9:]), b.Feed(f[5:]); len(x) != 1 || len(y) != 1 || a.Junk() != 0 || b.Junk() != 2 {
		t.Errorf("%v %v, junk %d and %d", x, y, a.Junk(), b.Junk())
	}
}

// A copy goes on by itself, whichever of the two is fed first.
func TestCopiesAreApart(t *testing.T) {
	r := rand.New(rand.NewSource(12))
	type one struct {
		s      frame.Splitter
		stream []byte
		found  []api.Frame
	}
	for range 300 {
		all := []one{{s: *made(t, 60)}}
		for range 60 {
			i := r.Intn(len(all))
			if len(all) < 5 && r.Intn(6) == 0 {
				c := all[i]
				c.stream, c.found = bytes.Clone(c.stream), append([]api.Frame(nil), c.found...)
				all = append(all, c)
			}
			if r.Intn(12) == 0 { // and one is set back to what another one is
				j := r.Intn(len(all))
				all[i].s = all[j].s
				all[i].stream, all[i].found = bytes.Clone(all[j].stream), append([]api.Frame(nil), all[j].found...)
			}
			b := fragment(r, 1)
			b = b[:r.Intn(len(b)+1)]
			all[i].stream = append(all[i].stream, b...)
			all[i].found = append(all[i].found, all[i].s.Feed(b)...)
			for _, o := range all {
				if l := seen(&o.s, o.found); !l.same(splitByWords(o.stream, 60, false)) {
					t.Fatalf("%x: %v", o.stream, l.counts())
				}
			}
		}
	}
}
