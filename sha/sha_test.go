package sha_test

import (
	"bytes"
	"crypto/sha256"
	"encoding/hex"
	"fmt"
	"math/rand"
	"slices"
	"strings"
	"testing"

	"hawser/api"
	"hawser/sha"
)

const (
	textOfNone = "e3b0c44298fc1c149afbf4c8996fb92427ae41e4649b934ca495991b7852b855"
	textOfAbc  = "ba7816bf8f01cfea414140de5dae2223b00361a396177a9cb410ff61f20015ad"
)

func TestErrorNumbers(t *testing.T) {
	if api.ErrShaText != 50 || api.ErrShaSaved != 51 || api.ErrMade != 2 {
		t.Errorf("%d, %d, %d", api.ErrShaText, api.ErrShaSaved, api.ErrMade)
	}
}

// P5.1: texts whose digests are published.
func TestSumPublished(t *testing.T) {
	for _, c := range []struct{ text, digest string }{
		{"", textOfNone},
		{"abc", textOfAbc},
		{"abcdbcdecdefdefgefghfghighijhijkijkljklmklmnlmnomnopnopq", "248d6a61d20638b8e5c026930c3e6039a33ce45964ff2167f6ecedd419db06c1"},
		{"abcdefghbcdefghicdefghijdefghijkefghijklfghijklmghijklmnhijklmnoijklmnopjklmnopqklmnopqrlmnopqrsmnopqrstnopqrstu", "cf5b16a778af8380036ce59e7b0492370b249b11e8f07a51afac45037afee9d1"},
		{strings.Repeat("a", 1000000), "cdc76e5c9914fb9281a1c7e284d73e67f1809a48a497200e046d39ccc7112cd0"},
	} {
		if got := sha.Print(sha.Sum([]byte(c.text))); got != c.digest {
			t.Errorf("of %d bytes: %s", len(c.text), got)
		}
	}
}

// P5.1: each length up to some blocks, against the chapter's words and the
// library.
func TestSumOfEachLength(t *testing.T) {
	r := rand.New(rand.NewSource(51))
	for n := range 330 {
		b := randomBytes(r, n)
		got := sha.Sum(b)
		if want := newModel().write(b).sum(); got != want {
			t.Errorf("of %d bytes: %x, want %x", n, got, want)
		}
		if want := sha256.Sum256(b); got != want {
			t.Errorf("of %d bytes: %x, the library's is %x", n, got, want)
		}
	}
}

// P5.1: bytes that are all alike at the edges, where a filling that is wrong
// may look like bytes.
func TestSumOfBytesLikeFilling(t *testing.T) {
	for _, n := range edges {
		for _, c := range []byte{0, 128, 255} {
			b := bytes.Repeat([]byte{c}, n)
			if got, want := sha.Sum(b), sha256.Sum256(b); got != want {
				t.Errorf("of %d bytes %d: %x, want %x", n, c, got, want)
			}
		}
	}
}

func TestSumOfLongBytes(t *testing.T) {
	r := rand.New(rand.NewSource(52))
	for _, n := range []int{1<<16 - 1, 1 << 16, 1<<20 + 55, 1 << 22} {
		b := randomBytes(r, n)
		if got, want := sha.Sum(b), sha256.Sum256(b); got != want {
			t.Errorf("of %d bytes: %x, want %x", n, got, want)
		}
	}
}

// P5.1: parts, none and empty ones among them.
func TestSumOfParts(t *testing.T) {
	for _, parts := range [][][]byte{nil, {}, {nil}, {{}}, {nil, {}, nil}} {
		if got := sha.Print(sha.Sum(parts...)); got != textOfNone {
			t.Errorf("of %v: %s", parts, got)
		}
	}
	for _, parts := range [][]string{{"abc"}, {"a", "", "bc"}, {"", "abc"}, {"abc", ""}, {"a", "b", "c"}} {
		var l [][]byte
		for _, p := range parts {
			l = append(l, []byte(p))
		}
		if got := sha.Print(sha.Sum(l...)); got != textOfAbc {
			t.Errorf("of %q: %s", parts, got)
		}
	}
	if sha.Sum([]byte("bc"), []byte("a")) == sha.Sum([]byte("abc")) {
		t.Error("the parts' order is not told")
	}
}

// P5.1: two parts, cut at each place.
func TestSumOfTwoPartsCutAnywhere(t *testing.T) {
	r := rand.New(rand.NewSource(53))
	for _, n := range edges {
		b := randomBytes(r, n)
		want := api.Digest(sha256.Sum256(b))
		for at := range n + 1 {
			if got := sha.Sum(b[:at], b[at:]); got != want {
				t.Errorf("of %d bytes cut at %d: %x, want %x", n, at, got, want)
			}
		}
	}
}

func TestSumOfManyParts(t *testing.T) {
	r := rand.New(rand.NewSource(54))
	for range 300 {
		b := randomBytes(r, r.Intn(600))
		parts := cutUp(r, b, 1+r.Intn(150))
		if got, want := sha.Sum(parts...), sha256.Sum256(b); got != want {
			t.Errorf("of %d bytes in %d parts: %x, want %x", len(b), len(parts), got, want)
		}
	}
}

// R3: what is handed in stays, the room behind it too.
func TestSumLeavesItsParts(t *testing.T) {
	r := rand.New(rand.NewSource(55))
	whole := randomBytes(r, 300)
	kept := slices.Clone(whole)
	parts := [][]byte{whole[:70], whole[100:100], whole[120:185]}
	want := sha256.Sum256(slices.Concat(whole[:70], whole[120:185]))
	if got := sha.Sum(parts...); got != want {
		t.Errorf("%x, want %x", got, want)
	}
	if !bytes.Equal(whole, kept) {
		t.Error("the bytes were changed")
	}
	if len(parts) != 3 || len(parts[0]) != 70 || len(parts[1]) != 0 || len(parts[2]) != 65 {
		t.Error("the parts were changed")
	}
}

// P5.2: Print.
func TestPrint(t *testing.T) {
	var rising, falling api.Digest
	for i := range rising {
		rising[i] = byte(i)
		falling[i] = byte(255 - i)
	}
	for _, c := range []struct {
		d    api.Digest
		text string
	}{
		{api.Digest{}, strings.Repeat("0", 64)},
		{rising, "000102030405060708090a0b0c0d0e0f101112131415161718191a1b1c1d1e1f"},
		{falling, "fffefdfcfbfaf9f8f7f6f5f4f3f2f1f0efeeedecebeae9e8e7e6e5e4e3e2e1e0"},
		{api.Digest{0: 0x01}, "01" + strings.Repeat("0", 62)},
		{api.Digest{31: 0xa9}, strings.Repeat("0", 62) + "a9"},
	} {
		if got := sha.Print(c.d); got != c.text {
			t.Errorf("%x: %q", c.d, got)
		}
	}
}

// P5.2, P5.6: each value of each byte.
func TestPrintAndParseOfEachByte(t *testing.T) {
	r := rand.New(rand.NewSource(56))
	for at := range len(api.Digest{}) {
		for v := range 256 {
			var d api.Digest
			r.Read(d[:])
			d[at] = byte(v)
			text := sha.Print(d)
			if want := hex.EncodeToString(d[:]); text != want {
				t.Fatalf("Print: %q, want %q", text, want)
			}
			back, e, place := sha.Parse(text)
			if back != d || e != api.OK || place != 0 {
				t.Fatalf("Parse(%q): %x, %d, %d", text, back, e, place)
			}
		}
	}
}

// byWords is Parse as the chapter says it.
func byWords(text string) (api.Errno, int) {
	head := text
	if len(head) > 64 {
		head = head[:64]
	}
	for i := 0; i < len(head); i++ {
		if !strings.Contains("0123456789abcdef", head[i:i+1]) {
			return api.ErrShaText, i
		}
	}
	switch {
	case len(text) < 64:
		return api.ErrShaText, len(text)
	case len(text) > 64:
		return api.ErrShaText, 64
	}
	return api.OK, 0
}

// checkParse holds Parse against the chapter's words; P5.6: what it takes is
// printed again.
func checkParse(t *testing.T, text string) {
	t.Helper()
	wantE, wantAt := byWords(text)
	d, e, at := sha.Parse(text)
	if e != wantE || at != wantAt {
		t.Errorf("Parse(%q): %d, %d, want %d, %d", text, e, at, wantE, wantAt)
	}
	if e != api.OK && d != (api.Digest{}) {
		t.Errorf("Parse(%q): %x beside an error", text, d)
	}
	if e == api.OK && sha.Print(d) != text {
		t.Errorf("Parse(%q): Print of it is %q", text, sha.Print(d))
	}
}

// P5.2: errors and their places.
func TestParseWrong(t *testing.T) {
	short, long := textOfAbc[:63], textOfAbc+"0"
	for _, c := range []struct {
		text string
		at   int
	}{
		{"", 0},
		{"b", 1},
		{"ba78", 4},
		{"Ba", 0},
		{"bA", 1},
		{"g", 0},
		{" " + textOfAbc, 0},
		{textOfAbc + " ", 64},
		{textOfAbc + "\n", 64},
		{short, 63},
		{long, 64},
		{textOfAbc + textOfAbc, 64},
		{textOfAbc + "x", 64},
		{short + "x", 63},
		{short + "xx", 63},
		{"x" + long, 0},
		{textOfAbc[:10] + "G" + textOfAbc[10:], 10},
		{"0x" + textOfAbc, 1},
		{textOfAbc[:20] + "é" + textOfAbc[22:], 20},
		{textOfAbc[:63] + "é", 63},
		{strings.Repeat("0", 64) + strings.Repeat("z", 1000), 64},
		{strings.ToUpper(textOfAbc), 0},
		{"\x00", 0},
		{textOfAbc[:5] + "\xff", 5},
	} {
		d, e, at := sha.Parse(c.text)
		if d != (api.Digest{}) || e != api.ErrShaText || at != c.at {
			t.Errorf("Parse(%q): %x, %d, %d, want the place %d", c.text, d, e, at, c.at)
		}
		checkParse(t, c.text)
	}
}

// P5.2: each sign at each place, in texts that are too short, right and too
// long.
func TestParseEachSignAtEachPlace(t *testing.T) {
	for _, n := range []int{1, 63, 64, 65} {
		text := []byte((textOfAbc + "5")[:n])
		for at := range text {
			was := text[at]
			for v := range 256 {
				text[at] = byte(v)
				checkParse(t, string(text))
			}
			text[at] = was
		}
	}
}

// P5.2: of two signs that are none, the first one is told.
func TestParseTellsTheFirst(t *testing.T) {
	for i := range 64 {
		for j := i + 1; j < 64; j++ {
			text := []byte(textOfAbc)
			text[i], text[j] = 'F', '/'
			if _, e, at := sha.Parse(string(text)); e != api.ErrShaText || at != i {
				t.Errorf("wrong at %d and %d: %d, %d", i, j, e, at)
			}
		}
	}
}

// P5.2: texts of digits alone, of each length.
func TestParseEachLength(t *testing.T) {
	digits := strings.Repeat(textOfAbc, 3)
	for n := range len(digits) {
		checkParse(t, digits[:n])
	}
}

func TestParseOfARandomText(t *testing.T) {
	r := rand.New(rand.NewSource(57))
	signs := "0123456789abcdef0123456789abcdef0123456789abcdefAFg/:`"
	for range 20000 {
		text := make([]byte, []int{0, 20, 63, 64, 64, 65, 90}[r.Intn(7)])
		for i := range text {
			text[i] = signs[r.Intn(48)]
			if r.Intn(100) == 0 {
				text[i] = signs[r.Intn(len(signs))]
			}
		}
		checkParse(t, string(text))
	}
}

// P5.6: digests that differ have texts that differ.
func TestParseOfPrint(t *testing.T) {
	r := rand.New(rand.NewSource(58))
	seen := map[string]api.Digest{}
	for range 5000 {
		var d api.Digest
		r.Read(d[:])
		if r.Intn(2) == 0 {
			d = api.Digest{}
			d[r.Intn(len(d))] = byte(r.Intn(256))
		}
		text := sha.Print(d)
		if other, ok := seen[text]; ok && other != d {
			t.Fatalf("%x and %x: %s", d, other, text)
		}
		seen[text] = d
		if back, e, at := sha.Parse(text); back != d || e != api.OK || at != 0 {
			t.Fatalf("%x: %x, %d, %d", d, back, e, at)
		}
	}
}

func ExampleSum() {
	fmt.Println(sha.Print(sha.Sum([]byte("a"), nil, []byte("bc"))))
	// Output: ba7816bf8f01cfea414140de5dae2223b00361a396177a9cb410ff61f20015ad
}
