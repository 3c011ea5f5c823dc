package span_test

import (
	"math/rand"
	"strings"
	"testing"

	"hawser/api"
	"hawser/span"
)

func TestNumbersAndLimits(t *testing.T) {
	for i, c := range []struct{ got, want int }{
		{int(api.OK), 0},
		{int(api.ErrSpanKey), 60},
		{int(api.ErrSpanDepth), 61},
		{int(api.ErrSpanBucket), 62},
		{api.MaxKey, 1024},
		{api.MaxDepth, 3},
		{api.Fan, 16},
	} {
		if c.got != c.want {
			t.Errorf("row %d: %d, want %d", i, c.got, c.want)
		}
	}
}

// P6.1.
func TestCheck(t *testing.T) {
	for _, c := range []struct {
		key  string
		want api.Errno
	}{
		{"", 60},
		{"a", 0},
		{"\x00", 0},
		{"\xff", 0},
		{"\x00\xff\x80", 0},
		{strings.Repeat("a", 1023), 0},
		{strings.Repeat("a", 1024), 0},
		{strings.Repeat("\x00", 1024), 0},
		{strings.Repeat("\xff", 1024), 0},
		{strings.Repeat("a", 1025), 60},
		{strings.Repeat("\x00", 1025), 60},
		{strings.Repeat("é", 512), 0},
		{strings.Repeat("é", 513), 60},
		{strings.Repeat("a", 1<<20), 60},
	} {
		if got := span.Check(c.key); got != c.want {
			t.Errorf("of %d bytes: %d, want %d", len(c.key), got, c.want)
		}
	}
}

func TestCheckEachLength(t *testing.T) {
	for n := range 2100 {
		want := api.ErrSpanKey
		if n >= 1 && n <= 1024 {
			want = api.OK
		}
		if got := span.Check(strings.Repeat("k", n)); got != want {
			t.Errorf("of %d bytes: %d, want %d", n, got, want)
		}
	}
}

// P6.2, the chapter's first example and edges.
func TestHas(t *testing.T) {
	long := strings.Repeat("a", 1<<16)
	for _, c := range []struct {
		from, to, text string
		want           bool
	}{
		{"a", "c", "b", true},
		{"a", "c", "c", false},
		{"a", "", "zz", true},
		{"", "a", "", true},
		{"a", "c", "a", true},
		{"a", "c", "", false},
		{"a", "c", "A", false},
		{"a", "c", "bzzz", true},
		{"a", "c", "c\x00", false},
		{"a", "c", "d", false},
		{"a", "a\x00", "a", true},
		{"a", "a\x00", "a\x00", false},
		{"a\x00", "b", "a", false},
		{"ab", "b", "a\xff", true},
		{"ab", "b", "a", false},
		{"", "", "", true},
		{"", "", "\xff\xff", true},
		{"\xff", "", "\xff", true},
		{"\xff", "", "\xfe\xff", false},
		{"", "\x00", "", true},
		{"", "\x00", "\x00", false},
		{"\x7f", "\x81", "\x80", true},
		{"b", "a", "b", false},
		{"b", "a", "a", false},
		{"b", "a", "", false},
		{"b", "a", "c", false},
		{"a", "a", "a", false},
		{"a", "", long, true},
		{long, "", long, true},
		{long + "a", "", long, false},
		{"", long, long, false},
		{"", long + "\x00", long, true},
	} {
		if got := span.Has(api.Range{From: c.from, To: c.to}, c.text); got != c.want {
			t.Errorf("[%.9q, %.9q) has %.9q: %v", c.from, c.to, c.text, got)
		}
	}
}

func TestEmpty(t *testing.T) {
	for _, c := range []struct {
		from, to string
		want     bool
	}{
		{"b", "a", true},
		{"a", "a", true},
		{"", "", false},
		{"a", "", false},
		{"a", "b", false},
		{"", "\x00", false},
		{"\x00", "\x00", true},
		{"\x00\x00", "\x00", true},
		{"\x00", "\x00\x00", false},
		{"a", "a\x00", false},
		{"a\x00", "a", true},
		{"\xff", "", false},
		{"\xff", "\x80", true},
		{"\x80", "\x7f", true},
		{"\xff", "\xff\x00", false},
	} {
		if got := span.Empty(api.Range{From: c.from, To: c.to}); got != c.want {
			t.Errorf("[%q, %q): %v", c.from, c.to, got)
		}
	}
}

func TestHasAndEmptyOfEachPair(t *testing.T) {
	for _, r := range pairs(endTexts) {
		if got := span.Empty(r); got != modelEmpty(r) {
			t.Errorf("Empty of %q: %v", r, got)
		}
		for _, text := range endTexts {
			if got := span.Has(r, text); got != modelHas(r, text) {
				t.Errorf("%q has %q: %v", r, text, got)
			}
		}
	}
}

// P6.2: an Empty range has nothing, any other one has its From.
func TestEmptyIsToHaveNothing(t *testing.T) {
	for _, r := range pairs(endTexts) {
		if span.Has(r, r.From) == span.Empty(r) {
			t.Errorf("%q", r)
		}
	}
}

// P6.2, the chapter's second example and edges.
func TestPrefix(t *testing.T) {
	ff := strings.Repeat("\xff", 2000)
	for _, c := range []struct{ prefix, to string }{
		{"ab", "ac"},
		{"a\xff", "b"},
		{"\xff\xff", ""},
		{"", ""},
		{"\xff", ""},
		{"\xfe", "\xff"},
		{"\x00", "\x01"},
		{"\x00\x00", "\x00\x01"},
		{"a\x00", "a\x01"},
		{"\x00\xff", "\x01"},
		{"\xff\x00", "\xff\x01"},
		{"\xff\xfe\xff\xff", "\xff\xff"},
		{"a\xff\x00\xff", "a\xff\x01"},
		{"\x7f", "\x80"},
		{"é", "\xc3\xaa"},
		{"\x7f\xff", "\x80"},
		{ff, ""},
		{"a" + ff, "b"},
		{ff + "a", ff + "b"},
	} {
		if got, want := span.Prefix(c.prefix), (api.Range{From: c.prefix, To: c.to}); got != want {
			t.Errorf("of %.9q: %.20q", c.prefix, got)
		}
	}
}

// P6.2: the range has just the texts that begin so.
func TestPrefixHasWhatBeginsSo(t *testing.T) {
	r := rand.New(rand.NewSource(61))
	for range 20000 {
		p, text := randomText(r, 4), randomText(r, 5)
		if r.Intn(2) == 0 {
			text = p + text
		}
		got := span.Prefix(p)
		if span.Has(got, text) != strings.HasPrefix(text, p) {
			t.Fatalf("prefix %q: %q, of %q", p, got, text)
		}
	}
}

func TestPrefixOfEachByte(t *testing.T) {
	for c := range 256 {
		b := string([]byte{'k', byte(c)})
		want := api.Range{From: b, To: "l"}
		if c < 255 {
			want.To = string([]byte{'k', byte(c + 1)})
		}
		if got := span.Prefix(b); got != want {
			t.Errorf("%q: %q", b, got)
		}
	}
}
