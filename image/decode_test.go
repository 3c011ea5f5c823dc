package image_test

import (
	"bytes"
	"encoding/binary"
	"math/rand"
	"slices"
	"strings"
	"testing"

	"hawser/api"
	"hawser/image"
)

// P9.3

func TestDecodeExamples(t *testing.T) {
	none, one := form(api.State{}), form(example())
	refused(t, "without its last byte", one[:14], 93)
	refused(t, "without its last byte", none[:9], 92)
	refused(t, "nine bytes", one[:9], 92)
	refused(t, "the mark's last byte turned", append([]byte("hwi0"), none[4:]...), 92)
	refused(t, "the mark's last byte turned, a right sum", sealed("hwi0\x00\x00"), 92)
	refused(t, "nil", nil, 92)
	refused(t, "no bytes", []byte{}, 92)
	for n := range 10 {
		refused(t, "too few, a right sum", sealed(string(one[:max(0, n-4)]))[:n], 92)
	}
}

// Ten bytes and more, whose sum is right or is not.
func TestDecodeFirstFault(t *testing.T) {
	one := form(example())
	for i := range 4 {
		for c := range 256 {
			b := bytes.Clone(one)
			b[i] = byte(c)
			if b[i] == one[i] {
				continue
			}
			refused(t, "another mark and another sum", b, 92)
			refused(t, "another mark", sealed(string(b[:11])), 92)
		}
	}
	for i := 11; i < 15; i++ {
		for c := range 256 {
			b := bytes.Clone(one)
			b[i] = byte(c)
			if b[i] != one[i] {
				refused(t, "another sum", b, 93)
			}
		}
	}
	b := bytes.Clone(one)
	slices.Reverse(b[11:])
	refused(t, "the sum's highest byte first", b, 93)
	refused(t, "the sum of all behind the mark", append(bytes.Clone(one[:11]), sealed(string(one[4:11]))[7:]...), 93)
	refused(t, "the mark alone, and six bytes", []byte("hwi1aaaaaa"), 93)
	refused(t, "the mark alone, and noughts", append([]byte("hwi1"), make([]byte, 6)...), 93)
	refused(t, "two faults: a version above Seq and another sum", append([]byte("hwi1\x04\x01\x01k\x01v\x05"), one[11:]...), 93)
	refused(t, "two faults: a byte behind and another sum", append(bytes.Clone(one), 0), 93)
}

// Cut anywhere, and with more behind: as they are, and with a right sum.
func TestDecodeCut(t *testing.T) {
	for _, s := range samples() {
		b := form(s)
		whole := string(b[:len(b)-4])
		step := 1 + len(b)/500
		for n := 0; n < len(b); n += step {
			want := api.Errno(93)
			if n < 10 {
				want = 92
			}
			refused(t, "cut", b[:n], want)
			refused(t, "cut, within its room", b[:n:n], want)
		}
		for n := 0; n < len(whole); n += step {
			refused(t, "cut, a right sum", sealed(whole[:n]), 92)
		}
		refused(t, "cut by a byte, a right sum", sealed(whole[:len(whole)-1]), 92)
		for c := range 256 {
			more := string([]byte{byte(c)})
			refused(t, "a byte behind", append(bytes.Clone(b), byte(c)), 93)
			refused(t, "a byte behind, a right sum", sealed(whole+more), 92)
			refused(t, "a byte behind the sum, a right sum", sealed(string(b)+more), 92)
		}
		refused(t, "twice", slices.Concat(b, b), 93)
		refused(t, "twice, a right sum", sealed(string(b)+whole), 92)
		refused(t, "sealed twice", sealed(string(b)), 92)
	}
}

// padded is a number of a byte more than it needs.
func padded(s string) string { return s[:len(s)-1] + string([]byte{s[len(s)-1] + 128, 0}) }

// headOf is how many bytes of a text are the number that it begins with.
func headOf(s string) int {
	return 1 + slices.IndexFunc([]byte(s), func(c byte) bool { return c < 128 })
}

// heads are the places of all numbers that stand in an image: Seq, the count, and each row's three.
func heads(s api.State) []int {
	at := 4
	l := []int{at}
	at += len(number(s.Seq))
	l = append(l, at)
	at += len(number(len(s.Rows)))
	for _, r := range s.Rows {
		l = append(l, at, at+len(text(r.Key)), at+len(text(r.Key)+text(r.Value)))
		at += len(rowForm(r))
	}
	return l
}

// tooGreat are numbers above all that may stand anywhere, and what begins like a number and is none.
func tooGreat() []string {
	return []string{
		"\x81\x80\x80\x80\x80\x80\x80\x80\x10", "\xff\xff\xff\xff\xff\xff\xff\xff\x7f", "\x80\x80\x80\x80\x80\x80\x80\x80\x80\x01",
		"\xff\xff\xff\xff\xff\xff\xff\xff\xff\x01", "\xff\xff\xff\xff\xff\xff\xff\xff\xff\x02", "\x80\x80\x80\x80\x80\x80\x80\x80\x80\x00",
		strings.Repeat("\x80", 10), strings.Repeat("\x80", 30), strings.Repeat("\xff", 12) + "\x01",
	}
}

func TestDecodeShortestAlone(t *testing.T) {
	for _, s := range samples() {
		whole := strings.Join(parts(s), "")
		for _, at := range heads(s) {
			ahead, rest := whole[:at], whole[at:]
			n := headOf(rest)
			refused(t, "a number that is too long", sealed(ahead+padded(rest[:n])+rest[n:]), 92)
			refused(t, "a number that is much too long", sealed(ahead+padded(padded(rest[:n]))+rest[n:]), 92)
			for _, high := range tooGreat() {
				refused(t, "a number that is too great", sealed(ahead+high+rest[n:]), 92)
			}
		}
	}
}

// counted is an image of a state with another count.
func counted(s api.State, count int) []byte {
	l := parts(s)
	l[2] = number(count)
	return sealed(strings.Join(l, ""))
}

func TestDecodeCounts(t *testing.T) {
	for _, s := range samples() {
		for _, count := range []int{0, 1, 2, len(s.Rows) - 1, len(s.Rows) + 1, 2 * len(s.Rows), 127, 128, 1<<20 - 1, 1 << 20, 1<<20 + 1, 1 << 28, 1 << 60, 1<<63 - 1} {
			if count >= 0 && count != len(s.Rows) {
				refused(t, "another count", counted(s, count), 92)
			}
		}
	}
}

// What is no image of a state that may be, though it is laid down as one's is.
func TestDecodeStates(t *testing.T) {
	for _, s := range []api.State{
		state(top + 1), state(1<<61, row("k", "", 1)),
		state(7, row("", "v", 5)), state(7, row(long(1025), "v", 5)), state(7, row("k", long(65537), 5)),
		state(7, row("k", "v", 0)), state(7, row("k", "v", 8)), state(top, row("k", "v", top+1)), state(0, row("k", "v", 1)),
		state(7, row("k", "v", 5), row("k", "w", 6)), state(7, row("k", "v", 5), row("j", "w", 6)), state(7, row("ka", "", 5), row("k", "", 5)),
		state(7, row("k", "", 5), row("", "", 5)), state(7, row("k", "", 5), row("l", "", 8)), state(7, row("k", "", 5), row("l", "", 0)),
		state(7, row("", "", 0), row("", "", 0)),
	} {
		refused(t, show(s), form(s), 92)
	}
	refused(t, "lengths that the bytes do not have", sealed("hwi1\x07\x01\x80\x08k\x01v\x05"), 92)
	refused(t, "a value's length that the bytes do not have", sealed("hwi1\x07\x01\x01k\x80\x80\x04v\x05"), 92)
	refused(t, "nothing at all", sealed("hwi1\x07"), 92)
	refused(t, "a part of Seq", sealed("hwi1\x07\x80"), 92)
}

// P9.6

// oneForm: bytes are refused, or just those of the state that is read from them.
func oneForm(t *testing.T, b []byte) api.Errno {
	t.Helper()
	e := decodes(t, "one form", b)
	if s, _ := image.Decode(b); e == 0 {
		if again, e := image.Encode(s); e != 0 || !bytes.Equal(again, b) {
			t.Fatalf("Decode(%.40x): %s, which is %.40x, %d", b, show(s), again, e)
		}
	}
	return e
}

// Each byte another one, one more, one less: with the sum as it was, and with a right one.
func TestOneForm(t *testing.T) {
	seen := map[api.Errno]int{}
	both := func(b []byte) {
		t.Helper()
		seen[oneForm(t, b)]++
		seen[oneForm(t, sealed(string(b[:len(b)-4])))]++
	}
	for _, s := range small()[:12] {
		b := form(s)
		for i := range b {
			for c := range 256 {
				other := bytes.Clone(b)
				other[i] = byte(c)
				both(other)
				both(slices.Insert(bytes.Clone(b), i, byte(c)))
			}
			both(slices.Delete(bytes.Clone(b), i, i+1))
		}
	}
	if seen[0] < 100 || seen[92] < 100 || seen[93] < 100 {
		t.Errorf("%v", seen)
	}
}

func TestOneFormOfAnything(t *testing.T) {
	r := rand.New(rand.NewSource(93))
	seen := map[api.Errno]int{}
	for range 200000 {
		b := make([]byte, r.Intn(14))
		r.Read(b)
		oneForm(t, b)
		for i := range b {
			b[i] %= 5
		}
		seen[oneForm(t, sealed("hwi1"+string(b)))]++
		oneForm(t, b)
	}
	if seen[0] < 100 {
		t.Errorf("%v", seen)
	}
}

func FuzzDecode(f *testing.F) {
	for _, s := range small() {
		f.Add(form(s))
	}
	f.Fuzz(func(t *testing.T, b []byte) {
		oneForm(t, b)
		opens(t, b, evenly(len(b), 3+len(b)/100))
		b = sealed(string(b))
		oneForm(t, b)
		opens(t, b, evenly(len(b), 1+len(b)/100))
	})
}

// P9.4

// peeks holds Peek and Room of some bytes against the chapter's words.
func peeks(t *testing.T, b []byte) api.Errno {
	t.Helper()
	seq, count, end, want := 0, 0, 0, api.Errno(92)
	if bytes.HasPrefix(b, []byte("hwi1")) {
		// The library's numbers may be longer than they need to be: such ones are told by their own shortest form.
		s, m := binary.Uvarint(b[4:])
		c, n := binary.Uvarint(b[4+max(0, m):])
		if m > 0 && n > 0 && s <= top && c <= maxRows && len(number(int(s))) == m && len(number(int(c))) == n {
			seq, count, end, want = int(s), int(c), 4+m+n, 0
		}
	}
	room := 0
	if behind := len(b) - end; want == 0 && behind > 4 {
		room = min(count, (behind-4)/4)
	}
	if s, c, e := image.Peek(b); s != seq || c != count || e != want {
		t.Fatalf("Peek(%.40x, of %d): %d, %d, %d, want %d, %d, %d", b, len(b), s, c, e, seq, count, want)
	}
	if n := image.Room(b); n != room || n > len(b)/4 {
		t.Fatalf("Room(%.40x, of %d): %d, want %d", b, len(b), n, room)
	}
	return want
}

func TestPeekExamples(t *testing.T) {
	for i, c := range []struct {
		b                string
		seq, count, room int
		err              api.Errno
	}{
		{"hwi1\x07\x01", 7, 1, 0, 0},
		{"hwi1\x80\x00\x00", 0, 0, 0, 92},
		{"hwi1\x07\x80\x00", 0, 0, 0, 92},
		{"hwi1\x07\x01\x01k\x01v", 7, 1, 0, 0},
		{"hwi1\x07\x01\x01k\x01v\x05\x00\x00", 7, 1, 0, 0},
		{"hwi1\x07\x01\x01k\x01v\x05\x00\x00\x00", 7, 1, 1, 0},
		{"hwi1\x07\x01\x01k\x01v\x05\x00\x00\x00\x00", 7, 1, 1, 0},
		{"hwi1\x07\x02" + long(100), 7, 2, 2, 0},
		{"hwi1\x00\x00" + long(100), 0, 0, 0, 0},
		{"hwi1\x80\x80\x80\x80\x80\x80\x80\x80\x10\x80\x80\x40" + long(23), top, maxRows, 4, 0},
		{"hwi1\x80\x80\x80\x80\x80\x80\x80\x80\x10\x80\x80\x40" + long(24), top, maxRows, 5, 0},
		{"hwi1\x81\x80\x80\x80\x80\x80\x80\x80\x10\x00" + long(24), 0, 0, 0, 92},
		{"hwi1\x07\x81\x80\x40" + long(24), 0, 0, 0, 92},
		{"hwi1\x07", 0, 0, 0, 92},
		{"hwi1", 0, 0, 0, 92},
		{"hwi", 0, 0, 0, 92},
		{"", 0, 0, 0, 92},
		{"hwi0\x07\x01", 0, 0, 0, 92},
		{"hwi1hwi1", 'h', 'w', 0, 0},
	} {
		seq, count, e := image.Peek([]byte(c.b))
		if seq != c.seq || count != c.count || e != c.err {
			t.Errorf("%d: Peek: %d, %d, %d", i, seq, count, e)
		}
		if n := image.Room([]byte(c.b)); n != c.room {
			t.Errorf("%d: Room: %d", i, n)
		}
		peeks(t, []byte(c.b))
	}
	if s, c, e := image.Peek(nil); s != 0 || c != 0 || e != 92 || image.Room(nil) != 0 {
		t.Errorf("nil: %d, %d, %d", s, c, e)
	}
}

// Beginnings of every length, of images and of what is none.
func TestPeekBeginnings(t *testing.T) {
	for _, s := range samples() {
		b := form(s)
		told := 4 + len(number(s.Seq)) + len(number(len(s.Rows)))
		for n := range min(len(b), 3000) + 1 {
			if e := peeks(t, b[:n]); (e == 0) != (n >= told) {
				t.Fatalf("%d bytes: %d", n, e)
			}
		}
		if n := image.Room(b); n != len(s.Rows) {
			t.Fatalf("Room of an image with %d rows: %d", len(s.Rows), n)
		}
	}
}

// Counts below, at and above what the bytes account for.
func TestRoom(t *testing.T) {
	for behind := range 120 {
		for _, count := range []int{0, 1, 2, 3, 5, 24, 25, 26, 27, 28, 29, 30, 127, 128, 1<<20 - 1, 1 << 20, 1<<20 + 1} {
			b := []byte("hwi1\x05" + number(count) + long(behind))
			peeks(t, b)
			if n := image.Room(b); count <= maxRows && n != min(count, max(0, behind-4)/4) {
				t.Fatalf("Room of %d rows in %d bytes: %d", count, behind, n)
			}
		}
	}
}

func TestPeekNumbers(t *testing.T) {
	for bits := range 63 {
		for _, v := range []int{1<<bits - 1, 1 << bits, 1<<bits + 1} {
			for _, rest := range []string{"", "\x00", "\x80", long(40)} {
				peeks(t, []byte("hwi1"+number(v)+"\x03"+rest))
				peeks(t, []byte("hwi1\x03"+number(v)+rest))
				peeks(t, []byte("hwi1"+padded(number(v))+"\x03"+rest))
				peeks(t, []byte("hwi1\x03"+padded(number(v))+rest))
				peeks(t, []byte("hwi1"+number(v)+rest))
			}
		}
	}
	for _, high := range tooGreat() {
		if peeks(t, []byte("hwi1"+high+"\x03"+long(40))) != 92 || peeks(t, []byte("hwi1\x03"+high+long(40))) != 92 {
			t.Errorf("%x", high)
		}
	}
	r := rand.New(rand.NewSource(94))
	seen := map[api.Errno]int{}
	for range 200000 {
		b := make([]byte, r.Intn(30))
		r.Read(b)
		seen[peeks(t, append([]byte("hwi1"), b...))]++
		for i := range b {
			b[i] &= 131
		}
		seen[peeks(t, append([]byte("hwi1"), b...))]++
		peeks(t, b)
	}
	if seen[0] < 1000 || seen[92] < 1000 {
		t.Errorf("%v", seen)
	}
}
