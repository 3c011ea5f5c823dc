package delta_test

import (
	"bytes"
	"math/rand"
	"slices"
	"testing"

	"hawser/api"
	"hawser/delta"
)

// flow is the bytes of a stream, and behind each update how many there are.
func flow(l []api.Update) (string, []int) {
	s, ends := "", []int{0}
	for _, u := range l {
		s += text(form(u))
		ends = append(ends, len(s))
	}
	return s, ends
}

// splits: of these bytes these updates are taken, and no more.
func splits(t *testing.T, why, b string, want []api.Update, end int) {
	t.Helper()
	got, n := delta.Split([]byte(b))
	if !slices.Equal(got, want) || n != end {
		t.Fatalf("%s: Split: %d updates, %d bytes, want %d, %d", why, len(got), n, len(want), end)
	}
	if s, e := delta.Stream(got...); e != 0 || string(s) != b[:n] {
		t.Fatalf("%s: what Split takes is not its Stream", why)
	}
}

func TestStreamExamples(t *testing.T) {
	b, e := delta.Stream(put(1, "a", "x"))
	if e != 0 || string(b) != "\x08\x01\x01\x01\x01\x01\x61\x01\x78" {
		t.Errorf("Stream: %x, %d", b, e)
	}
	splits(t, "the chapter's", string(b)+"\x08\x01", []api.Update{put(1, "a", "x")}, 9)
	if b, e := delta.Stream(); e != 0 || len(b) != 0 {
		t.Errorf("of none: %x, %d", b, e)
	}
	splits(t, "no bytes", "", nil, 0)
	if l, n := delta.Split(nil); len(l) != 0 || n != 0 {
		t.Errorf("nil: %v, %d", l, n)
	}
}

func some(r *rand.Rand, n int) []api.Update {
	var l []api.Update
	for range n {
		l = append(l, anything(r))
	}
	return l
}

func TestStreamCut(t *testing.T) {
	r := rand.New(rand.NewSource(83))
	for range 60 {
		l := some(r, r.Intn(5))
		b, ends := flow(l)
		if got, e := delta.Stream(l...); e != 0 || string(got) != b {
			t.Fatalf("Stream: %x, %d, want %x", got, e, b)
		}
		whole := 0
		for n := range len(b) + 1 {
			if whole < len(l) && ends[whole+1] == n {
				whole++
			}
			splits(t, "cut", b[:n], l[:whole], ends[whole])
		}
	}
	l := samples() // among them those of the greatest lengths
	b, ends := flow(l)
	for i, end := range ends {
		splits(t, "cut", b[:end], l[:i], end)
		splits(t, "cut a byte behind", b[:min(end+1, len(b))], l[:i], end)
		if i > 0 {
			splits(t, "cut a byte ahead", b[:end-1], l[:i-1], ends[i-1])
		}
	}
}

// What stands in the midst and is no update ends what is taken, whatever comes behind it.
func TestSplitMidst(t *testing.T) {
	one := form(put(7, "k", "v"))
	r := rand.New(rand.NewSource(84))
	for why, no := range map[string]string{
		"nothing, which is no update":          "\x00",
		"an update's beginning":                text(one[:len(one)-1]),
		"an update, and a byte":                text(one + "\x00"),
		"two in one":                           text(one + one),
		"a length that is a byte too short":    number(len(one)-1) + one,
		"a length that is a byte too long":     number(len(one)+1) + one,
		"a length that is not in its one form": padded(number(len(one))) + one,
		"a length that is greater than all":    number(1<<30) + one,
		"a length at an int's end":             "\xff\xff\xff\xff\xff\xff\xff\xff\x7f" + one,
		"a length above an int's end":          "\x80\x80\x80\x80\x80\x80\x80\x80\x80\x01" + one,
		"a length at its end":                  "\xff\xff\xff\xff\xff\xff\xff\xff\xff\x01" + one,
		"a length that is none":                "\xff\xff\xff\xff\xff\xff\xff\xff\xff\x02" + one,
		"a length that has no end":             "\x80\x80\x80\x80\x80\x80\x80\x80\x80\x80\x80\x80",
		"client 0":                             text(form(update(1, 0, 1, 1, "a", "", 0))),
		"client 17":                            text(form(update(1, 17, 1, 1, "a", "", 0))),
		"number 0":                             text(form(update(1, 1, 0, 1, "a", "", 0))),
		"kind 4":                               text(form(update(1, 1, 1, 4, "a", "", 0))),
		"the store's own key":                  text(form(update(1, 1, 1, 2, "\x00s\x01", "", 0))),
		"a value that is too long":             text(form(update(1, 1, 1, 1, "a", long(65537), 0))),
	} {
		for n := range 4 {
			l := some(r, n)
			b, ends := flow(l)
			splits(t, why, b+no, l, ends[n])
			behind, _ := flow(some(r, 3))
			splits(t, why, b+no+behind, l, ends[n])
		}
	}
}

func TestStreamRefuses(t *testing.T) {
	good := put(1, "a", "x")
	faults := []api.Update{update(0, 0, 0, 0, "", "", 0), update(1, 17, 1, 1, "a", "", 0), update(1, 1, 0, 1, "a", "", 0), update(1, 1, 1, 0, "", "", 0), update(1, 1, 1, 2, "\x00", "", 0), update(1, 1, 1, 2, "a", "v", 0)}
	for i, first := range faults {
		want := []api.Errno{85, 83, 84, 80, 81, 82}[i]
		for n := range 5 {
			l := slices.Repeat([]api.Update{good}, n)
			l = append(l, first)
			if b, e := delta.Stream(l...); e != want || len(b) != 0 {
				t.Errorf("the last of %d: %x, %d, want %d", n+1, b, e, want)
			}
			l = append(l, good)
			for _, second := range faults {
				if b, e := delta.Stream(append(l, second)...); e != want || len(b) != 0 {
					t.Errorf("the first of two: %x, %d, want %d", b, e, want)
				}
			}
		}
	}
}

// Any bytes at all: what is taken is the stream of it.
func TestSplitAnything(t *testing.T) {
	r := rand.New(rand.NewSource(85))
	taken := 0
	for range 20000 {
		b, _ := flow(some(r, r.Intn(3)))
		wild := []byte(b)
		for range r.Intn(3) {
			if len(wild) > 0 {
				wild[r.Intn(len(wild))] ^= 1 << r.Intn(8)
			}
		}
		l, n := delta.Split(wild)
		taken += len(l)
		if s, e := delta.Stream(l...); e != 0 || n < 0 || n > len(wild) || !bytes.Equal(s, wild[:n]) {
			t.Fatalf("Split(%x): %d updates, %d bytes", wild, len(l), n)
		}
		if more, m := delta.Split(wild[n:]); len(more) != 0 || m != 0 {
			t.Fatalf("Split(%x): it goes on at %d", wild, n)
		}
	}
	if taken == 0 {
		t.Error("nothing was ever taken")
	}
}

// A stream of very many updates is gone through once, not once for each.
func TestSplitMany(t *testing.T) {
	l := make([]api.Update, 1<<18)
	for i := range l {
		l[i] = put(i+1, "k", "")
	}
	b, e := delta.Stream(l...)
	if e != 0 {
		t.Fatal(e)
	}
	if got, n := delta.Split(b); !slices.Equal(got, l) || n != len(b) {
		t.Errorf("%d updates, %d bytes of %d", len(got), n, len(b))
	}
}
