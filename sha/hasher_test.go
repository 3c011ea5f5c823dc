package sha_test

import (
	"bytes"
	"crypto/sha256"
	"encoding/binary"
	"math"
	"math/rand"
	"slices"
	"testing"

	"hawser/api"
	"hawser/sha"
)

const maxLen = 1 << 60

// checkHasher holds all that a hasher tells against the model.
func checkHasher(t *testing.T, h *sha.Hasher, m model) {
	t.Helper()
	if got := h.Len(); got != int(m.size) {
		t.Fatalf("Len: %d, want %d", got, m.size)
	}
	if got, want := h.Sum(), m.sum(); got != want {
		t.Fatalf("Len %d: Sum: %x, want %x", m.size, got, want)
	}
	if got, want := h.Save(), m.save(); !bytes.Equal(got, want) {
		t.Fatalf("Len %d: Save: %x, want %x", m.size, got, want)
	}
}

func mustLoad(t *testing.T, b []byte) *sha.Hasher {
	t.Helper()
	h, e := sha.Load(b)
	if e != api.OK || h == nil {
		t.Fatalf("Load(%x): %d", b, e)
	}
	return h
}

func mustRefuse(t *testing.T, b []byte) {
	t.Helper()
	if h, e := sha.Load(b); h != nil || e != api.ErrShaSaved {
		t.Errorf("Load(%x): %v, %d", b, h, e)
	}
}

// written: a hasher that has taken b.
func written(b []byte) *sha.Hasher {
	h := sha.New()
	h.Write(b)
	return h
}

// P5.3: as New made it.
func TestNew(t *testing.T) {
	h := sha.New()
	checkHasher(t, h, newModel())
	if sha.Print(h.Sum()) != textOfNone || h.Len() != 0 {
		t.Errorf("%x, %d", h.Sum(), h.Len())
	}
}

// P5.3: byte by byte, with everything asked behind each.
func TestWriteByteByByte(t *testing.T) {
	r := rand.New(rand.NewSource(61))
	h, m := sha.New(), newModel()
	for range 300 {
		b := randomBytes(r, 1)
		h.Write(b)
		m = m.write(b)
		checkHasher(t, h, m)
	}
}

// P5.3, P5.5: two pieces, cut at each place.
func TestWriteCutAnywhere(t *testing.T) {
	r := rand.New(rand.NewSource(62))
	for _, n := range edges {
		b := randomBytes(r, n)
		want := api.Digest(sha256.Sum256(b))
		for at := range n + 1 {
			h := sha.New()
			h.Write(b[:at])
			if h.Len() != at {
				t.Errorf("Len: %d, want %d", h.Len(), at)
			}
			h.Write(b[at:])
			if got := h.Sum(); got != want || h.Len() != n {
				t.Errorf("of %d bytes cut at %d: %x, %d, want %x", n, at, got, h.Len(), want)
			}
		}
	}
}

// P5.3: pieces without bytes change nothing.
func TestWriteOfNothing(t *testing.T) {
	for _, n := range edges {
		b := bytes.Repeat([]byte{7}, n)
		h, m := sha.New(), newModel().write(b)
		h.Write(nil)
		h.Write(b)
		h.Write([]byte{})
		h.Write(nil)
		checkHasher(t, h, m)
	}
}

// P5.3: what is asked changes nothing.
func TestAskingChangesNothing(t *testing.T) {
	for _, n := range edges {
		h := written(bytes.Repeat([]byte{9}, n))
		was := *h
		for range 3 {
			if h.Sum() != h.Sum() || h.Len() != n || !bytes.Equal(h.Save(), h.Save()) {
				t.Errorf("of %d bytes: asked again it tells something else", n)
			}
			if *h != was {
				t.Errorf("of %d bytes: it has changed", n)
			}
		}
	}
}

// P5.3: Reset, of hashers that New and that Load made.
func TestReset(t *testing.T) {
	r := rand.New(rand.NewSource(63))
	for _, n := range edges {
		b := randomBytes(r, n)
		made := written(b)
		loaded := mustLoad(t, savedBytes(uint64(n), randomWords(r), randomBytes(r, n%64)))
		for _, h := range []*sha.Hasher{made, loaded} {
			h.Reset()
			checkHasher(t, h, newModel())
			if *h != *sha.New() {
				t.Errorf("of %d bytes: it is not as New made it", n)
			}
			h.Reset()
			h.Write(b)
			checkHasher(t, h, newModel().write(b))
		}
	}
}

// P5.4: the chapter's fourth example.
func TestSaveExamples(t *testing.T) {
	words := "6a09e667bb67ae853c6ef372a54ff53a510e527f9b05688c1f83d9ab5be0cd19"
	d, _, _ := sha.Parse(words)
	first := d[:]
	if got, want := sha.New().Save(), slices.Concat([]byte{0x68, 0x73, 0x00}, first); !bytes.Equal(got, want) || len(got) != 35 {
		t.Errorf("%x, want %x", got, want)
	}
	if got, want := written([]byte("abc")).Save(), slices.Concat([]byte{0x68, 0x73, 0x03}, first, []byte{0x61, 0x62, 0x63}); !bytes.Equal(got, want) {
		t.Errorf("%x, want %x", got, want)
	}
}

// P5.4: the form, at each length: Len has two bytes from 128 on, and what
// stands behind the words are the bytes behind the last whole block.
func TestSaveOfEachLength(t *testing.T) {
	r := rand.New(rand.NewSource(64))
	for _, n := range slices.Concat(edges, []int{126, 130, 255, 256, 16383, 16384, 16385}) {
		b := randomBytes(r, n)
		got := written(b).Save()
		if want := newModel().write(b).save(); !bytes.Equal(got, want) {
			t.Errorf("of %d bytes: %x, want %x", n, got, want)
		}
		if over := b[n/64*64:]; !bytes.HasSuffix(got, over) || len(got) != 2+len(binary.AppendUvarint(nil, uint64(n)))+32+len(over) {
			t.Errorf("of %d bytes: %x", n, got)
		}
	}
}

// P5.4, P5.5: Load of any words and any Len that may be.
func TestLoad(t *testing.T) {
	r := rand.New(rand.NewSource(65))
	sizes := []uint64{0, 1, 55, 56, 63, 64, 65, 127, 128, 129, 1<<14 - 1, 1 << 14, 1<<31 - 1, 1 << 31, 1<<32 - 1, 1 << 32, 1 << 35, 1<<56 - 1, 1 << 56, maxLen - 64, maxLen - 63, maxLen - 9, maxLen - 8, maxLen - 1, maxLen}
	for range 100 {
		sizes = append(sizes, r.Uint64()>>(4+r.Intn(60)))
	}
	for _, size := range sizes {
		for _, words := range [][]uint32{randomWords(r), make([]uint32, 8), modelFirst} {
			m := model{words, size, randomBytes(r, int(size%64))}
			b := m.save()
			h := mustLoad(t, b)
			checkHasher(t, h, m)
			if !bytes.Equal(h.Save(), b) {
				t.Errorf("Len %d: Save of Load is %x, of %x", size, h.Save(), b)
			}
			for _, n := range []int{0, 1, 70} {
				more := randomBytes(r, n)
				h.Write(more)
				m = m.write(more)
				checkHasher(t, h, m)
			}
		}
	}
}

// P5.4: a whole state that is all zero is a hasher all the same.
func TestLoadOfZeros(t *testing.T) {
	h := mustLoad(t, savedBytes(0, make([]uint32, 8), nil))
	m := model{state: make([]uint32, 8)}
	checkHasher(t, h, m)
	h.Write([]byte("abc"))
	checkHasher(t, h, m.write([]byte("abc")))
	h.Reset()
	checkHasher(t, h, newModel())
}

// P5.4: beyond 2^60 bytes a hasher goes on, but is not loaded any more.
func TestBeyondTheGreatestLen(t *testing.T) {
	m := model{modelFirst, maxLen, nil}
	h := mustLoad(t, m.save())
	for _, n := range []int{1, 62, 1, 1, 200} {
		b := bytes.Repeat([]byte{3}, n)
		h.Write(b)
		m = m.write(b)
		checkHasher(t, h, m)
		mustRefuse(t, h.Save())
	}
}

// P5.4: Len above 2^60, in its one form.
func TestLoadOfALenThatIsTooGreat(t *testing.T) {
	for _, size := range []uint64{maxLen + 1, maxLen + 63, maxLen + 64, 2 * maxLen, 1<<62 - 1, math.MaxInt64 - 63, math.MaxInt64, 1 << 63, 1<<63 + 64, 1<<63 + maxLen, math.MaxUint64 - 63, math.MaxUint64} {
		for over := range 66 {
			mustRefuse(t, savedBytes(size, modelFirst, make([]byte, over)))
		}
	}
}

// withLen: saved bytes with these bytes for Len.
func withLen(number []byte, over int) []byte {
	return slices.Concat([]byte("hs"), number, bigEndian(modelFirst), make([]byte, over))
}

// P5.4: Len in another form than its shortest, and numbers without an end.
func TestLoadOfALenInAnotherForm(t *testing.T) {
	for _, c := range []struct {
		number []byte
		over   int
	}{
		{[]byte{0x80, 0x00}, 0},
		{[]byte{0x83, 0x00}, 3},
		{[]byte{0xbf, 0x00}, 63},
		{[]byte{0xc0, 0x00}, 0},
		{[]byte{0xff, 0x00}, 63},
		{[]byte{0x80, 0x80, 0x00}, 0},
		{[]byte{0x80, 0x81, 0x00}, 0},
		{[]byte{0x80, 0x80, 0x80, 0x80, 0x80, 0x80, 0x80, 0x80, 0x00}, 0},
		{[]byte{0x80, 0x80, 0x80, 0x80, 0x80, 0x80, 0x80, 0x80, 0x80, 0x00}, 0},
		{[]byte{0x80, 0x80, 0x80, 0x80, 0x80, 0x80, 0x80, 0x80, 0x90, 0x00}, 0},
		{[]byte{0x80, 0x80, 0x80, 0x80, 0x80, 0x80, 0x80, 0x80, 0x80, 0x01}, 0},
		{[]byte{0x80, 0x80, 0x80, 0x80, 0x80, 0x80, 0x80, 0x80, 0x80, 0x02}, 0},
		{bytes.Repeat([]byte{0x80}, 9), 0},
		{bytes.Repeat([]byte{0x80}, 10), 0},
		{append(bytes.Repeat([]byte{0x80}, 10), 0), 0},
		{append(bytes.Repeat([]byte{0x80}, 10), 1), 0},
		{append(bytes.Repeat([]byte{0xff}, 10), 1), 63},
		{append(bytes.Repeat([]byte{0x80}, 63), 1), 0},
		{append(bytes.Repeat([]byte{0x80}, 64), 0), 0},
	} {
		mustRefuse(t, withLen(c.number, c.over))
		for n := range 200 {
			mustRefuse(t, slices.Concat([]byte("hs"), c.number, make([]byte, n)))
		}
	}
	// The greatest one, and the one that is one more.
	mustLoad(t, withLen([]byte{0x80, 0x80, 0x80, 0x80, 0x80, 0x80, 0x80, 0x80, 0x10}, 0))
	mustRefuse(t, withLen([]byte{0x81, 0x80, 0x80, 0x80, 0x80, 0x80, 0x80, 0x80, 0x10}, 1))
	mustRefuse(t, withLen([]byte{0x80, 0x80, 0x80, 0x80, 0x80, 0x80, 0x80, 0x80, 0x11}, 0))
}

// P5.4: each other count of bytes behind the last block.
func TestLoadOfAnotherCount(t *testing.T) {
	for _, size := range []uint64{0, 1, 62, 63, 64, 65, 127, 128, 191, 192, 1 << 20, maxLen - 1, maxLen} {
		for over := range 200 {
			b := savedBytes(size, modelFirst, make([]byte, over))
			if over == int(size%64) {
				mustLoad(t, b)
			} else {
				mustRefuse(t, b)
			}
		}
	}
	// The chapter's fifth example.
	mustRefuse(t, append([]byte{0x68, 0x73, 0x40}, make([]byte, 33)...))
}

// P5.4: bytes that end too early, anywhere, or go on.
func TestLoadOfBytesThatAreCut(t *testing.T) {
	for _, n := range edges {
		b := written(bytes.Repeat([]byte{5}, n)).Save()
		for end := range b {
			mustRefuse(t, b[:end])
			// Nor is the room behind them looked at.
			mustRefuse(t, slices.Clip(b[:end]))
		}
		mustLoad(t, b)
		mustRefuse(t, append(slices.Clone(b), 0))
		mustRefuse(t, append(slices.Clone(b), b...))
		mustRefuse(t, append(slices.Clone(b), make([]byte, 64)...))
		mustRefuse(t, b[1:])
		mustRefuse(t, b[2:])
	}
	mustRefuse(t, nil)
	mustRefuse(t, []byte{})
	mustRefuse(t, []byte("hs"))
	mustRefuse(t, []byte("hs\x00"))
}

// P5.4: other first bytes, each of them.
func TestLoadOfOtherFirstBytes(t *testing.T) {
	b := written([]byte("abc")).Save()
	for at := range 2 {
		for v := range 256 {
			other := slices.Clone(b)
			other[at] = byte(v)
			if other[at] == b[at] {
				mustLoad(t, other)
			} else {
				mustRefuse(t, other)
			}
		}
	}
	mustRefuse(t, append([]byte("sh"), b[2:]...))
	mustRefuse(t, append([]byte("HS"), b[2:]...))
}

// mayLoad is the chapter's form of saved bytes.
func mayLoad(b []byte) bool {
	if !bytes.HasPrefix(b, []byte("hs")) {
		return false
	}
	size, n := binary.Uvarint(b[2:])
	if n <= 0 || size > maxLen || !bytes.Equal(binary.AppendUvarint(nil, size), b[2:2+n]) {
		return false
	}
	return len(b) == 2+n+32+int(size%64)
}

// P5.4, P5.5 and R7: bytes that look like saved ones are refused, or saved
// again as they are.
func TestLoadTakesOneFormAlone(t *testing.T) {
	r := rand.New(rand.NewSource(66))
	taken, refused := 0, 0
	for range 50000 {
		b := []byte("hs")
		for range r.Intn(12) {
			b = append(b, []byte{0x80, 0x80, 0x81, 0xff, 0x90}[r.Intn(5)])
		}
		if r.Intn(4) > 0 {
			b = b[:min(len(b), 2+r.Intn(3))]
		}
		b = append(b, []byte{0, 0, 1, 2, 16, 17, 63, 64, 127}[r.Intn(9)])
		size, n := binary.Uvarint(b[2:])
		b = append(b, randomBytes(r, 32)...)
		if n > 0 && r.Intn(10) > 0 {
			b = append(b, randomBytes(r, int(size%64))...)
		} else {
			b = append(b, randomBytes(r, r.Intn(70))...)
		}
		h, e := sha.Load(b)
		if !mayLoad(b) {
			refused++
			if h != nil || e != api.ErrShaSaved {
				t.Fatalf("Load(%x): %d", b, e)
			}
			continue
		}
		taken++
		if e != api.OK || !bytes.Equal(h.Save(), b) {
			t.Fatalf("Load(%x): %d", b, e)
		}
	}
	if taken < 1000 || refused < 1000 {
		t.Errorf("%d taken, %d refused", taken, refused)
	}
}

// P5.5: in whatever pieces, however often it is saved, loaded and asked
// between.
func TestPiecesSavedAndLoaded(t *testing.T) {
	r := rand.New(rand.NewSource(67))
	for range 400 {
		all := randomBytes(r, r.Intn(700))
		h := sha.New()
		taken := 0
		for _, p := range cutUp(r, all, 1+r.Intn(200)) {
			h.Write(p)
			taken += len(p)
			switch r.Intn(4) {
			case 0:
				h = mustLoad(t, h.Save())
			case 1:
				if got, want := h.Sum(), sha256.Sum256(all[:taken]); got != want {
					t.Fatalf("Sum of the first %d: %x, want %x", taken, got, want)
				}
			case 2:
				if h.Len() != taken {
					t.Fatalf("Len: %d, want %d", h.Len(), taken)
				}
			}
		}
		if got := h.Sum(); got != sha256.Sum256(all) || got != sha.Sum(all) || h.Len() != len(all) {
			t.Fatalf("of %d bytes: %x", len(all), got)
		}
	}
}

// P5.5: Load of Save is the same hasher, in all that it tells, now and later.
func TestLoadOfSave(t *testing.T) {
	r := rand.New(rand.NewSource(68))
	for _, n := range edges {
		h := written(randomBytes(r, n))
		g := mustLoad(t, h.Save())
		// Nothing more is kept than what is saved.
		if *g != *h {
			t.Errorf("of %d bytes: it is another one", n)
		}
		for _, more := range edges {
			b := randomBytes(r, more)
			h.Write(b)
			g.Write(b)
			if g.Sum() != h.Sum() || g.Len() != h.Len() || !bytes.Equal(g.Save(), h.Save()) || *g != *h {
				t.Errorf("of %d bytes and more: it goes on otherwise", n)
			}
		}
	}
}

// R3: what is handed in to Write stays, and may be written over behind the
// call.
func TestWriteKeepsNothingOfItsBytes(t *testing.T) {
	r := rand.New(rand.NewSource(69))
	for _, n := range edges {
		whole := randomBytes(r, n+80)
		kept := slices.Clone(whole)
		h := sha.New()
		h.Write(whole[:n])
		if !bytes.Equal(whole, kept) {
			t.Errorf("of %d bytes: they were changed", n)
		}
		clear(whole)
		checkHasher(t, h, newModel().write(kept[:n]))
		h.Write(kept[n:])
		checkHasher(t, h, newModel().write(kept))
	}
}

// R3: the same of Load.
func TestLoadKeepsNothingOfItsBytes(t *testing.T) {
	r := rand.New(rand.NewSource(70))
	for _, n := range edges {
		m := newModel().write(randomBytes(r, n))
		whole := append(m.save(), randomBytes(r, 80)...)
		kept := slices.Clone(whole)
		b := whole[:len(whole)-80]
		h := mustLoad(t, b)
		h.Write(make([]byte, 10))
		if !bytes.Equal(whole, kept) {
			t.Errorf("of %d bytes: they were changed", n)
		}
		clear(whole)
		checkHasher(t, h, m.write(make([]byte, 10)))
	}
}

// R3: what Save answers is new memory, its spare room too.
func TestSaveAnswersNewMemory(t *testing.T) {
	r := rand.New(rand.NewSource(71))
	for _, n := range edges {
		m := newModel().write(randomBytes(r, n))
		h := mustLoad(t, m.save())
		one, two := h.Save(), h.Save()
		for _, b := range [][]byte{one, two} {
			b = b[:cap(b)]
			for i := range b {
				b[i] = 0xee
			}
		}
		checkHasher(t, h, m)
		one = h.Save()
		two = h.Save()
		clear(one[:cap(one)])
		if !bytes.Equal(two, m.save()) {
			t.Errorf("of %d bytes: two answers share memory", n)
		}
		h.Write(bytes.Repeat([]byte{1}, 200))
		h.Reset()
		if !bytes.Equal(two, m.save()) {
			t.Errorf("of %d bytes: an answer has changed", n)
		}
	}
}

// R4: hashers know nothing of each other, copies among them.
func TestHashersAreTheirOwn(t *testing.T) {
	a, b := sha.New(), sha.New()
	a.Write([]byte("a"))
	if b.Len() != 0 || sha.Print(b.Sum()) != textOfNone {
		t.Error("another one was written to")
	}
	saved := a.Save()
	c, d := mustLoad(t, saved), mustLoad(t, saved)
	c.Write([]byte("bc"))
	if sha.Print(c.Sum()) != textOfAbc || d.Len() != 1 || a.Len() != 1 || d.Sum() != sha.Sum([]byte("a")) {
		t.Error("two loaded ones share something")
	}
	e := *d
	e.Write(bytes.Repeat([]byte{4}, 100))
	d.Write([]byte("bc"))
	if sha.Print(d.Sum()) != textOfAbc || e.Len() != 101 {
		t.Error("a copy shares something")
	}
	checkHasher(t, &e, newModel().write([]byte("a")).write(bytes.Repeat([]byte{4}, 100)))
	a.Reset()
	if c.Len() != 3 || b.Len() != 0 || a.Len() != 0 {
		t.Error("another one was reset")
	}
}

// R5: a hasher that no call made changes nothing and tells nothing.
func TestUnmade(t *testing.T) {
	for _, h := range []*sha.Hasher{nil, new(sha.Hasher)} {
		for range 2 {
			if h.Sum() != (api.Digest{}) || h.Len() != 0 || len(h.Save()) != 0 {
				t.Errorf("%v: %x, %d, %x", h, h.Sum(), h.Len(), h.Save())
			}
			h.Write([]byte("abc"))
			h.Write(bytes.Repeat([]byte{1}, 200))
			h.Write(nil)
			h.Reset()
		}
		if h != nil && *h != (sha.Hasher{}) {
			t.Error("it has changed")
		}
		mustRefuse(t, h.Save())
	}
	var h sha.Hasher
	h.Reset()
	h.Write([]byte("abc"))
	if h != (sha.Hasher{}) {
		t.Error("Reset has made one")
	}
}

// A hasher does not grow with what it takes.
func TestWriteSetsNothingAside(t *testing.T) {
	h := sha.New()
	b := make([]byte, 1000)
	if n := testing.AllocsPerRun(100, func() { h.Write(b) }); n != 0 {
		t.Errorf("%v times a call", n)
	}
}

func FuzzLoad(f *testing.F) {
	f.Add([]byte("hs"))
	f.Add(sha.New().Save())
	f.Add(written(make([]byte, 200)).Save())
	f.Add(savedBytes(maxLen, modelFirst, nil))
	f.Fuzz(func(t *testing.T, b []byte) {
		h, e := sha.Load(b)
		if (e == api.OK) != mayLoad(b) || (h != nil) != (e == api.OK) {
			t.Fatalf("Load(%x): %d", b, e)
		}
		if e == api.OK && !bytes.Equal(h.Save(), b) {
			t.Fatalf("Save of Load(%x): %x", b, h.Save())
		}
	})
}
