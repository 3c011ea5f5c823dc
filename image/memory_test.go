package image_test

import (
	"bytes"
	"runtime"
	"slices"
	"testing"

	"hawser/api"
	"hawser/image"
)

// R3: what is handed in stays, and is not kept; what is answered is the caller's own.

// spoil fills a list, and the room behind its end.
func spoil[T any](l []T, by T) {
	l = l[:cap(l)]
	for i := range l {
		l[i] = by
	}
}

// roomy is a list with some room behind its end, in which by stands.
func roomy[T any](l []T, by T) []T {
	long := append(slices.Clone(l), by, by, by, by)
	return long[: len(l) : len(l)+4]
}

// kept: a list and the room behind it are as roomy made them.
func kept[T comparable](t *testing.T, name string, l, want []T, by T) {
	t.Helper()
	if !slices.Equal(l, want) || !slices.Equal(l[len(l):cap(l)], []T{by, by, by, by}) {
		t.Fatalf("%s: what was handed in has changed", name)
	}
}

var stain = row("stain", "stain", 77)

func TestRowsHandedIn(t *testing.T) {
	bad := []api.State{state(-1, many(3)...), state(3, many(4)...), state(9, row("b", "", 1), row("a", "", 1))}
	for _, s := range append(samples(), bad...) {
		given := api.State{Seq: s.Seq, Rows: roomy(s.Rows, stain)}
		want := fault(s)
		if e := image.Check(given); e != want {
			t.Fatalf("Check: %d", e)
		}
		kept(t, "Check", given.Rows, s.Rows, stain)
		if _, e := image.Size(given); e != want {
			t.Fatalf("Size: %d", e)
		}
		kept(t, "Size", given.Rows, s.Rows, stain)
		b, e := image.Encode(given)
		kept(t, "Encode", given.Rows, s.Rows, stain)
		spoil(given.Rows, api.Row{})
		if e != want || e == 0 && !bytes.Equal(b, form(s)) {
			t.Fatalf("Encode: %d", e)
		}
	}
}

func TestBytesHandedIn(t *testing.T) {
	for _, s := range samples() {
		right := form(s)
		for _, want := range [][]byte{right, right[:len(right)-1], right[:9], append(form(s), 0), sealed("hwi1\x07\x01\x00\x00\x05")} {
			b := roomy(want, 0xee)
			got, e := image.Decode(b)
			kept(t, "Decode", b, want, 0xee)
			image.Peek(b)
			image.Room(b)
			kept(t, "Peek, Room", b, want, 0xee)
			spoil(b, 0xdd)
			if e == 0 && !same(got, s) {
				t.Fatalf("Decode: %s", show(got))
			}
			b = roomy(want, 0xee)
			image.New().Write(b)
			kept(t, "Write", b, want, 0xee)
		}
	}
}

// An opener keeps nothing of what it was handed, nor of what it has answered.
func TestOpenerKeepsItsOwn(t *testing.T) {
	for _, s := range samples() {
		b := form(s)
		for _, piece := range []int{1, 2, 3, 7, 50, 1000, 40000, len(b)} {
			if len(b)/piece > 10000 {
				continue
			}
			o := image.New()
			var rows []api.Row
			for p := range slices.Chunk(b, piece) {
				given := roomy(p, 0xee)
				l, e := o.Write(given)
				if kept(t, "Write", given, p, 0xee); e != 0 {
					t.Fatalf("Write: %d", e)
				}
				rows = append(rows, l...)
				spoil(given, 0xdd)
				spoil(l, stain)
			}
			if ends(t, o, s.Seq, 0); !slices.Equal(rows, s.Rows) {
				t.Fatalf("in pieces of %d: %s, want %s", piece, show(api.State{Rows: rows}), show(s))
			}
		}
	}
}

func TestAnswersAreOnesOwn(t *testing.T) {
	for _, s := range samples() {
		a, _ := image.Encode(s)
		b, _ := image.Encode(s)
		spoil(a, 0xdd)
		if c, _ := image.Encode(s); !bytes.Equal(b, form(s)) || !bytes.Equal(c, b) {
			t.Fatal("Encode: an answer hangs on another one")
		}
		x, _ := image.Decode(b)
		y, _ := image.Decode(b)
		spoil(x.Rows, stain)
		if z, _ := image.Decode(b); !same(y, s) || !same(z, s) {
			t.Fatal("Decode: an answer hangs on another one")
		}
	}
}

// R4: openers know nothing of each other; nor does a copy of one and what it was copied from.
func TestOpenersOnTheirOwn(t *testing.T) {
	one, other := state(300, row("a", long(300), 1), row("b", "", 300)), state(301, row("a", "x"+long(299), 1), row("c", "", 301))
	a, b := form(one), form(other)
	x, y := image.New(), image.New()
	for i := range min(len(a), len(b)) {
		writes(t, x, a[i:i+1], hear(a[:i+1]).rows[len(hear(a[:i]).rows):], 0)
		writes(t, y, b[i:i+1], hear(b[:i+1]).rows[len(hear(b[:i]).rows):], 0)
	}
	ends(t, x, 300, 0)
	ends(t, y, 301, 0)
}

func TestCopiesGoOnByThemselves(t *testing.T) {
	s := state(300, row("a", "", 1), row("b", long(300), 300), row("c", "y", 7))
	b := form(s)
	for _, piece := range []int{1, 2, 5, 40} {
		for cut := 0; cut <= len(b); cut += piece {
			o := afterAll(b[:cut], piece)
			rows := hear(b[:cut]).rows
			spoiling := *o
			for range 400 {
				spoiling.Write([]byte("zz"))
			}
			ending := *o
			ending.End()
			apart := *o
			writes(t, &apart, b[cut:], s.Rows[len(rows):], 0)
			for p := range slices.Chunk(b[cut:], piece) {
				l, e := o.Write(p)
				if rows = append(rows, l...); e != 0 {
					t.Fatalf("Write: %d", e)
				}
			}
			if !slices.Equal(rows, s.Rows) {
				t.Fatalf("cut at %d: %s", cut, show(api.State{Rows: rows}))
			}
			ends(t, o, 300, 0)
			ends(t, &apart, 300, 0)
		}
	}
}

// taken is how many bytes of memory a call has set aside in all.
func taken(call func()) int {
	var before, behind runtime.MemStats
	runtime.ReadMemStats(&before)
	call()
	runtime.ReadMemStats(&behind)
	return int(behind.TotalAlloc - before.TotalAlloc)
}

// G1: reading sets no more room aside than the bytes account for, whatever they tell.
func TestRoomSetAside(t *testing.T) {
	const least = 1 << 14 // of a call, whatever it is given
	for _, count := range []int{0, 1, 1000, 1 << 20, 1<<20 + 1, 1 << 40} {
		for _, behind := range []int{0, 1, 4, 100, 1000, 100000} {
			for _, fill := range []string{"\x00", "\x01", "k", "\x80"} {
				b := counted(state(7), count)
				b = sealed(string(b[:len(b)-4]) + string(bytes.Repeat([]byte(fill), behind)))
				if n := taken(func() { image.Decode(b) }); n > least+20*len(b) {
					t.Errorf("Decode of %d bytes that tell of %d rows: %d bytes set aside", len(b), count, n)
				}
				if n := taken(func() { image.New().Write(b) }); n > least+20*len(b) {
					t.Errorf("Write of %d bytes that tell of %d rows: %d bytes set aside", len(b), count, n)
				}
				if n := taken(func() { image.Peek(b); image.Room(b) }); n > least {
					t.Errorf("Peek of %d bytes: %d bytes set aside", len(b), n)
				}
			}
		}
	}
	for _, row := range []string{"\x80\x08", "\x01k\x80\x80\x04"} { // lengths of bytes that are not there
		b := sealed("hwi1\x07\x01" + row)
		if n := taken(func() { image.Decode(b); image.New().Write(b) }); n > 2*least {
			t.Errorf("%x: %d bytes set aside", row, n)
		}
	}
}

// A long row that comes byte by byte is not read anew at each of them: that would be some 2^31 bytes.
func TestByteByByte(t *testing.T) {
	s := state(9, row(long(1024), long(65536), 9))
	b := form(s)
	var rows []api.Row
	o := image.New()
	n := taken(func() {
		for i := range b {
			l, _ := o.Write(b[i : i+1])
			rows = append(rows, l...)
		}
	})
	if ends(t, o, 9, 0); !slices.Equal(rows, s.Rows) || n > 1<<25 {
		t.Errorf("%d rows, %d bytes set aside", len(rows), n)
	}
}
