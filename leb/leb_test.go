package leb_test

import (
	"bytes"
	"cmp"
	"encoding/binary"
	"fmt"
	"iter"
	"math"
	"math/rand"
	"slices"
	"testing"

	"hawser/api"
	"hawser/leb"
)

// told is what an iterator tells at one step.
type told struct {
	at int
	v  uint64
}

func collect(s iter.Seq2[int, uint64]) []told {
	var l []told
	for at, v := range s {
		l = append(l, told{at, v})
	}
	return l
}

// edges: the numbers around each step of the size, and others of every length.
func edges() []uint64 {
	l := []uint64{0, 1, 2, 126, 127, 128, 129, 300, math.MaxInt64, math.MaxUint64 - 1, math.MaxUint64}
	for k := range 64 {
		v := uint64(1) << k
		l = append(l, v-1, v, v+1)
	}
	r := rand.New(rand.NewSource(1))
	for range 2000 {
		l = append(l, r.Uint64()>>r.Intn(64))
	}
	return l
}

func signed() []int {
	l := []int{math.MinInt, math.MinInt + 1, math.MaxInt, math.MaxInt - 1}
	for _, u := range edges() {
		l = append(l, int(u), -int(u>>1), int(u>>1))
	}
	return l
}

// times: so many bytes of one kind, and others behind them.
func times(n int, c byte, behind ...byte) []byte {
	return append(bytes.Repeat([]byte{c}, n), behind...)
}

// byWords is P1.2 word by word, with no thought of speed.
func byWords(b []byte) (uint64, int, api.Errno) {
	k := 0
	for i, c := range b {
		if c < 128 {
			k = i + 1
			break
		}
	}
	switch {
	case k == 0 && len(b) < 10:
		return 0, 0, api.ErrLebShort
	case k > 10 || k == 0 || k == 10 && b[k-1] > 1:
		return 0, 0, api.ErrLebLong
	case k > 1 && b[k-1] == 0:
		return 0, 0, api.ErrLebForm
	}
	var v uint64
	for i := k - 1; i >= 0; i-- {
		v = v*128 + uint64(b[i]%128)
	}
	return v, k, api.OK
}

// texts: every text of up to two bytes, and longer ones about each rule's edge.
func texts() [][]byte {
	l := [][]byte{nil, {}}
	for c := range 256 {
		l = append(l, []byte{byte(c)})
		for d := range 256 {
			l = append(l, []byte{byte(c), byte(d)})
		}
	}
	for n := range 13 {
		for _, c := range []byte{0x80, 0x81, 0xff} {
			l = append(l, times(n, c))
			for _, d := range []byte{0, 1, 2, 3, 0x7f, 0x80, 0xff} {
				l = append(l, times(n, c, d), times(n, c, d, 0), times(n, c, d, 5, 0x80))
			}
		}
	}
	r := rand.New(rand.NewSource(2))
	for range 20000 {
		b := make([]byte, r.Intn(14))
		for i := range b {
			b[i] = byte(r.Intn(256))
			if r.Intn(4) > 0 { // most bytes go on, so that long numbers come up
				b[i] |= 0x80
			}
		}
		l = append(l, b)
	}
	return l
}

func TestErrorNumbers(t *testing.T) {
	for _, c := range []struct {
		e    api.Errno
		want int
	}{{api.OK, 0}, {api.ErrArg, 1}, {api.ErrLebShort, 10}, {api.ErrLebLong, 11}, {api.ErrLebForm, 12}} {
		if int(c.e) != c.want {
			t.Errorf("error %d, want %d", c.e, c.want)
		}
	}
}

// P1.1

func TestEncodeAndSize(t *testing.T) {
	for _, c := range []struct {
		l    []uint64
		want []byte
	}{
		{nil, nil},
		{[]uint64{}, nil},
		{[]uint64{0}, []byte{0}},
		{[]uint64{127}, []byte{0x7f}},
		{[]uint64{128}, []byte{0x80, 1}},
		{[]uint64{0, 127, 128, 300}, []byte{0, 0x7f, 0x80, 1, 0xac, 2}},
		{[]uint64{300, 0, 0}, []byte{0xac, 2, 0, 0}},
		{[]uint64{1<<14 - 1}, []byte{0xff, 0x7f}},
		{[]uint64{1 << 14}, []byte{0x80, 0x80, 1}},
		{[]uint64{1<<63 - 1}, times(8, 0xff, 0x7f)},
		{[]uint64{1 << 63}, times(9, 0x80, 1)},
		{[]uint64{math.MaxUint64}, times(9, 0xff, 1)},
	} {
		if got := leb.Encode(c.l...); !bytes.Equal(got, c.want) {
			t.Errorf("Encode(%d) = %x, want %x", c.l, got, c.want)
		}
		if got := leb.Size(c.l...); got != len(c.want) {
			t.Errorf("Size(%d) = %d, want %d", c.l, got, len(c.want))
		}
	}
}

func TestEncodeOfEveryLength(t *testing.T) {
	var all []byte
	for _, v := range edges() {
		want := binary.AppendUvarint(nil, v)
		if got := leb.Encode(v); !bytes.Equal(got, want) || leb.Size(v) != len(want) {
			t.Fatalf("Encode(%d) = %x, Size %d, want %x", v, got, leb.Size(v), want)
		}
		all = append(all, want...)
	}
	if got := leb.Encode(edges()...); !bytes.Equal(got, all) {
		t.Error("Encode of many numbers is not their bytes one behind the other")
	}
	if got := leb.Size(edges()...); got != len(all) {
		t.Errorf("Size of many numbers = %d, want %d", got, len(all))
	}
}

// P1.2

func TestDecode(t *testing.T) {
	for _, c := range []struct {
		b []byte
		v uint64
		n int
		e api.Errno
	}{
		{[]byte{0}, 0, 1, api.OK},
		{[]byte{0, 0}, 0, 1, api.OK},
		{[]byte{0x7f}, 127, 1, api.OK},
		{[]byte{0x80, 1}, 128, 2, api.OK},
		{[]byte{0xac, 2, 0x77}, 300, 2, api.OK},
		{[]byte{5, 0x80, 0}, 5, 1, api.OK},
		{times(8, 0xff, 0x7f), 1<<63 - 1, 9, api.OK},
		{times(9, 0x80, 1), 1 << 63, 10, api.OK},
		{times(9, 0xff, 1), math.MaxUint64, 10, api.OK},
		{times(9, 0xff, 1, 0xff, 0xff), math.MaxUint64, 10, api.OK},

		{nil, 0, 0, api.ErrLebShort},
		{[]byte{}, 0, 0, api.ErrLebShort},
		{[]byte{0x80}, 0, 0, api.ErrLebShort},
		{times(9, 0x80), 0, 0, api.ErrLebShort},
		{times(9, 0xff), 0, 0, api.ErrLebShort},

		{times(9, 0xff, 2), 0, 0, api.ErrLebLong},
		{times(9, 0x80, 2), 0, 0, api.ErrLebLong},
		{times(9, 0x80, 0x7f), 0, 0, api.ErrLebLong},
		{times(10, 0x80), 0, 0, api.ErrLebLong},
		{times(10, 0xff), 0, 0, api.ErrLebLong},
		{times(10, 0x80, 0), 0, 0, api.ErrLebLong},
		{times(10, 0x80, 1), 0, 0, api.ErrLebLong},
		{times(1000, 0x80), 0, 0, api.ErrLebLong},

		{[]byte{0x80, 0}, 0, 0, api.ErrLebForm},
		{[]byte{0xff, 0}, 0, 0, api.ErrLebForm},
		{[]byte{0x80, 0x80, 0, 1}, 0, 0, api.ErrLebForm},
		{times(8, 0xff, 0), 0, 0, api.ErrLebForm},
		{times(9, 0x80, 0), 0, 0, api.ErrLebForm},
		{times(9, 0xff, 0), 0, 0, api.ErrLebForm},
	} {
		if v, n, e := leb.Decode(c.b); v != c.v || n != c.n || e != c.e {
			t.Errorf("Decode(%x) = %d, %d, %d, want %d, %d, %d", c.b, v, n, e, c.v, c.n, c.e)
		}
	}
}

func TestDecodeByWords(t *testing.T) {
	for _, b := range texts() {
		v, n, e := leb.Decode(b)
		if wv, wn, we := byWords(b); v != wv || n != wn || e != we {
			t.Fatalf("Decode(%x) = %d, %d, %d, want %d, %d, %d", b, v, n, e, wv, wn, we)
		}
	}
}

// P1.3

func TestAll(t *testing.T) {
	for _, c := range []struct {
		b    []byte
		want []told
	}{
		{nil, nil},
		{[]byte{}, nil},
		{[]byte{0}, []told{{0, 0}}},
		{[]byte{5, 0x80, 1, 0x80}, []told{{0, 5}, {1, 128}}},
		{[]byte{5, 0x80, 1, 7}, []told{{0, 5}, {1, 128}, {3, 7}}},
		{[]byte{0x80}, nil},
		{[]byte{0x80, 0, 5}, nil},
		{[]byte{1, 0x80, 0, 5}, []told{{0, 1}}},
		{append([]byte{1}, times(10, 0x80, 1, 5)...), []told{{0, 1}}},
		{append(times(9, 0xff, 1), 3), []told{{0, math.MaxUint64}, {10, 3}}},
	} {
		if got := collect(leb.All(c.b)); !slices.Equal(got, c.want) {
			t.Errorf("All(%x) = %v, want %v", c.b, got, c.want)
		}
	}
}

func TestAllIsDecodeOneBehindTheOther(t *testing.T) {
	for _, b := range texts() {
		var want []told
		for at := 0; at < len(b); {
			v, n, e := byWords(b[at:])
			if e != api.OK {
				break
			}
			want = append(want, told{at, v})
			at += n
		}
		if got := collect(leb.All(b)); !slices.Equal(got, want) {
			t.Fatalf("All(%x) = %v, want %v", b, got, want)
		}
	}
}

// P1.4

func TestZigAndZag(t *testing.T) {
	for _, c := range []struct {
		v int
		u uint64
	}{
		{0, 0}, {-1, 1}, {1, 2}, {-2, 3}, {2, 4}, {-64, 127}, {64, 128},
		{math.MaxInt, math.MaxUint64 - 1}, {math.MinInt, math.MaxUint64},
		{math.MinInt + 1, math.MaxUint64 - 2},
	} {
		if got := leb.Zig(c.v); got != c.u {
			t.Errorf("Zig(%d) = %d, want %d", c.v, got, c.u)
		}
		if got := leb.Zag(c.u); got != c.v {
			t.Errorf("Zag(%d) = %d, want %d", c.u, got, c.v)
		}
	}
}

// P1.5

func TestSkip(t *testing.T) {
	three := []byte{5, 0x80, 1, 7}
	for _, c := range []struct {
		b    []byte
		n    int
		want int
		e    api.Errno
	}{
		{nil, -1, 0, api.ErrArg},
		{three, -1, 0, api.ErrArg},
		{three, math.MinInt, 0, api.ErrArg},
		{[]byte{0x80}, -1, 0, api.ErrArg},

		{nil, 0, 0, api.OK},
		{three, 0, 0, api.OK},
		{[]byte{0x80, 0}, 0, 0, api.OK},
		{three, 1, 1, api.OK},
		{three, 2, 3, api.OK},
		{three, 3, 4, api.OK},
		{[]byte{5, 0x80}, 1, 1, api.OK},
		{append([]byte{5}, times(10, 0x80)...), 1, 1, api.OK},
		{append(times(9, 0xff, 1), 3), 2, 11, api.OK},

		{nil, 1, 0, api.ErrLebShort},
		{[]byte{5}, 2, 0, api.ErrLebShort},
		{three, 4, 0, api.ErrLebShort},
		{three, math.MaxInt, 0, api.ErrLebShort},
		{[]byte{5, 0x80}, 2, 0, api.ErrLebShort},
		{[]byte{0x80, 0}, 1, 0, api.ErrLebForm},
		{[]byte{5, 0x80, 0, 7}, 2, 0, api.ErrLebForm},
		{[]byte{5, 0x80, 0, 0x80}, 3, 0, api.ErrLebForm},
		{append([]byte{5}, times(9, 0xff, 2)...), 2, 0, api.ErrLebLong},
		{append([]byte{5}, times(10, 0x80)...), math.MaxInt, 0, api.ErrLebLong},
	} {
		if at, e := leb.Skip(c.b, c.n); at != c.want || e != c.e {
			t.Errorf("Skip(%x, %d) = %d, %d, want %d, %d", c.b, c.n, at, e, c.want, c.e)
		}
	}
}

func TestSkipByWords(t *testing.T) {
	for _, b := range texts() {
		for n := range 5 {
			want, wantErr := 0, api.OK
			for range n {
				_, size, e := byWords(b[want:])
				if e != api.OK {
					want, wantErr = 0, e
					break
				}
				want += size
			}
			if at, e := leb.Skip(b, n); at != want || e != wantErr {
				t.Fatalf("Skip(%x, %d) = %d, %d, want %d, %d", b, n, at, e, want, wantErr)
			}
		}
	}
}

// P1.6

func TestDecodeUndoesEncode(t *testing.T) {
	for _, v := range edges() {
		for _, behind := range [][]byte{nil, {0}, {1}, {0x80}, {0xff, 0xff}, times(12, 0x80)} {
			b := append(leb.Encode(v), behind...)
			if got, n, e := leb.Decode(b); got != v || n != leb.Size(v) || e != api.OK {
				t.Fatalf("Decode(%x) = %d, %d, %d, want %d, %d", b, got, n, e, v, leb.Size(v))
			}
		}
	}
}

func TestEncodeUndoesDecode(t *testing.T) {
	for _, b := range texts() {
		v, n, e := leb.Decode(b)
		if e == api.OK && !bytes.Equal(leb.Encode(v), b[:n]) {
			t.Fatalf("Decode(%x) = %d, which Encode lays down as %x", b, v, leb.Encode(v))
		}
	}
}

func TestNoBytesBeginOthers(t *testing.T) {
	for _, v := range edges() {
		b := leb.Encode(v)
		for n := range len(b) {
			if got, _, e := leb.Decode(b[:n]); e != api.ErrLebShort {
				t.Fatalf("%x, a beginning of %d's bytes, is taken for %d (%d)", b[:n], v, got, e)
			}
		}
	}
}

func TestListsHaveBytesOfTheirOwn(t *testing.T) {
	few := []uint64{0, 1, 127, 128, 1 << 14, math.MaxUint64}
	lists := [][]uint64{{}}
	for _, u := range few {
		lists = append(lists, []uint64{u})
		for _, v := range few {
			lists = append(lists, []uint64{u, v})
			for _, w := range few {
				lists = append(lists, []uint64{u, v, w})
			}
		}
	}
	seen := map[string]string{}
	for _, l := range lists {
		b := leb.Encode(l...)
		if other, ok := seen[string(b)]; ok {
			t.Fatalf("%v and %s have the same bytes", l, other)
		}
		seen[string(b)] = fmt.Sprint(l)
		var back []uint64
		for _, v := range leb.All(b) {
			back = append(back, v)
		}
		if !slices.Equal(back, l) {
			t.Fatalf("All(Encode(%v)) = %v", l, back)
		}
	}
}

// P1.7

func TestSizeRises(t *testing.T) {
	l := edges()
	slices.Sort(l)
	for i := 1; i < len(l); i++ {
		if leb.Size(l[i-1]) > leb.Size(l[i]) {
			t.Errorf("Size(%d) = %d is above Size(%d) = %d", l[i-1], leb.Size(l[i-1]), l[i], leb.Size(l[i]))
		}
	}
	if leb.Size(0) != 1 || leb.Size(math.MaxUint64) != 10 {
		t.Errorf("sizes from %d to %d, want 1 to 10", leb.Size(0), leb.Size(math.MaxUint64))
	}
}

func TestZigKeepsOrder(t *testing.T) {
	l := signed()
	slices.Sort(l)
	l = slices.Compact(l)
	for i := 1; i < len(l); i++ {
		low, high := l[i-1], l[i]
		if low >= 0 && leb.Zig(low) >= leb.Zig(high) {
			t.Errorf("Zig(%d) = %d, Zig(%d) = %d", low, leb.Zig(low), high, leb.Zig(high))
		}
		if high < 0 && leb.Zig(low) <= leb.Zig(high) {
			t.Errorf("Zig(%d) = %d, Zig(%d) = %d", low, leb.Zig(low), high, leb.Zig(high))
		}
	}
}

// without: v without its sign.
func without(v int) uint64 {
	if v < 0 {
		return -uint64(v)
	}
	return uint64(v)
}

func TestZigKeepsOrderWithoutSigns(t *testing.T) {
	l := signed()
	slices.SortFunc(l, func(v, w int) int { return cmp.Compare(without(v), without(w)) })
	for i := 1; i < len(l); i++ {
		near, far := l[i-1], l[i]
		if without(near) < without(far) && leb.Zig(near) >= leb.Zig(far) {
			t.Errorf("Zig(%d) = %d, Zig(%d) = %d", near, leb.Zig(near), far, leb.Zig(far))
		}
	}
}

func TestZigAndZagUndoEachOther(t *testing.T) {
	for _, v := range signed() {
		if got := leb.Zag(leb.Zig(v)); got != v {
			t.Fatalf("Zag(Zig(%d)) = %d", v, got)
		}
	}
	for _, u := range edges() {
		if got := leb.Zig(leb.Zag(u)); got != u {
			t.Fatalf("Zig(Zag(%d)) = %d", u, got)
		}
	}
}

// R3

func TestArgumentsStayAsTheyWere(t *testing.T) {
	numbers := []uint64{300, 0, math.MaxUint64, 7, 8, 9}
	before := slices.Clone(numbers)
	leb.Encode(numbers[:3]...)
	leb.Size(numbers[:3]...)
	if !slices.Equal(numbers, before) {
		t.Errorf("numbers became %d", numbers)
	}

	room := []byte{5, 0x80, 1, 0x80, 0, 7, 0x80, 0xff}
	kept := bytes.Clone(room)
	for n := range len(room) + 1 {
		leb.Decode(room[:n])
		collect(leb.All(room[:n]))
		leb.Skip(room[:n], 3)
		if !bytes.Equal(room, kept) {
			t.Fatalf("bytes became %x behind calls with the first %d", room, n)
		}
	}
}

func TestRoomBehindTheEndIsNotRead(t *testing.T) {
	room := []byte{5, 0x80, 1, 7}
	if _, _, e := leb.Decode(room[1:2]); e != api.ErrLebShort {
		t.Errorf("Decode has read on behind the end: %d", e)
	}
	if got := collect(leb.All(room[:2])); !slices.Equal(got, []told{{0, 5}}) {
		t.Errorf("All has read on behind the end: %v", got)
	}
	if at, e := leb.Skip(room[:2], 2); at != 0 || e != api.ErrLebShort {
		t.Errorf("Skip has read on behind the end: %d, %d", at, e)
	}
}

func TestAnswerIsNewMemory(t *testing.T) {
	first := leb.Encode(1, 300)
	second := leb.Encode(1, 300)
	clear(first[:cap(first)])
	if want := []byte{1, 0xac, 2}; !bytes.Equal(second, want) || !bytes.Equal(leb.Encode(1, 300), want) {
		t.Error("two answers share memory")
	}
	numbers := []uint64{1, 300}
	b := leb.Encode(numbers...)
	numbers[0] = 77
	if !bytes.Equal(b, []byte{1, 0xac, 2}) {
		t.Error("an answer changed with its argument")
	}
}

func TestAllTellsWhatWasAskedFor(t *testing.T) {
	b := []byte{5, 0x80, 1, 7}
	want := []told{{0, 5}, {1, 128}, {3, 7}}
	s := leb.All(b)
	copy(b, []byte{1, 2, 3, 4})
	if got := collect(s); !slices.Equal(got, want) {
		t.Errorf("changed behind the call: %v, want %v", got, want)
	}

	b = []byte{5, 0x80, 1, 7}
	var got []told
	for at, v := range leb.All(b) {
		got = append(got, told{at, v})
		clear(b)
	}
	if !slices.Equal(got, want) {
		t.Errorf("changed in the midst: %v, want %v", got, want)
	}
}

func TestAllMayBeLeftGoneOverAgainAndNested(t *testing.T) {
	b := []byte{5, 0x80, 1, 7}
	want := []told{{0, 5}, {1, 128}, {3, 7}}
	s := leb.All(b)
	for steps := 1; steps <= len(want); steps++ {
		var got []told
		for at, v := range s {
			got = append(got, told{at, v})
			if len(got) == steps {
				break
			}
		}
		if !slices.Equal(got, want[:steps]) {
			t.Errorf("left behind %d steps: %v", steps, got)
		}
	}
	if got := collect(s); !slices.Equal(got, want) {
		t.Errorf("gone over again: %v", got)
	}
	var outer []told
	for at, v := range s {
		outer = append(outer, told{at, v})
		if got := collect(s); !slices.Equal(got, want) {
			t.Errorf("nested: %v", got)
		}
	}
	if !slices.Equal(outer, want) {
		t.Errorf("with another one nested in it: %v", outer)
	}
}
