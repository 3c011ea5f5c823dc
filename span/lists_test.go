package span_test

import (
	"math/rand"
	"slices"
	"strconv"
	"strings"
	"testing"

	"hawser/api"
	"hawser/span"
)

// P6.3, the chapter's third example and edges.
func TestNormal(t *testing.T) {
	for i, c := range []struct{ l, want []api.Range }{
		{ranges("c", "e", "a", "b", "b", "c", "x", "x"), ranges("a", "e")},
		{ranges("a", "", "", "a"), ranges("", "")},
		{nil, nil},
		{[]api.Range{}, nil},
		{ranges("", ""), ranges("", "")},
		{ranges("", "", "", ""), ranges("", "")},
		{ranges("a", "b"), ranges("a", "b")},
		{ranges("a", "b", "a", "b"), ranges("a", "b")},
		{ranges("b", "a"), nil},
		{ranges("a", "a"), nil},
		{ranges("b", "a", "a", "a"), nil},
		{ranges("b", "a", "a", "b"), ranges("a", "b")},
		{ranges("a", "z", "c", "d"), ranges("a", "z")},
		{ranges("c", "d", "a", "z"), ranges("a", "z")},
		{ranges("a", "c", "b", "d"), ranges("a", "d")},
		{ranges("b", "d", "a", "c"), ranges("a", "d")},
		{ranges("a", "b", "b", "c"), ranges("a", "c")},
		{ranges("a", "b", "b\x00", "c"), ranges("a", "b", "b\x00", "c")},
		{ranges("a", "b", "a\xff", "c"), ranges("a", "c")},
		{ranges("c", "d", "a", "b"), ranges("a", "b", "c", "d")},
		{ranges("a", "", "b", "c"), ranges("a", "")},
		{ranges("a", "", "b", ""), ranges("a", "")},
		{ranges("b", "", "a", "c"), ranges("a", "")},
		{ranges("c", "", "a", "b"), ranges("a", "b", "c", "")},
		{ranges("", "a", "b", ""), ranges("", "a", "b", "")},
		{ranges("", "\x00"), ranges("", "\x00")},
		{ranges("\xff", "", "\xff\xff", ""), ranges("\xff", "")},
		{ranges("", "a", "c", "b", "b", ""), ranges("", "a", "b", "")},
		{ranges("a", "c", "a", "b", "a", "d"), ranges("a", "d")},
		{ranges("a", "d", "b", "d", "c", "d"), ranges("a", "d")},
	} {
		if got := span.Normal(c.l...); !slices.Equal(got, c.want) {
			t.Errorf("row %d: %q, want %q", i, got, c.want)
		}
	}
}

// P6.3, the chapter's fourth example and edges.
func TestMeetAndMinus(t *testing.T) {
	for i, c := range []struct{ a, b, meet, minus []api.Range }{
		{ranges("a", "m"), ranges("k", ""), ranges("k", "m"), ranges("a", "k")},
		{ranges("a", "b"), ranges("b", "c"), nil, ranges("a", "b")},
		{ranges("", ""), ranges("b", "c"), ranges("b", "c"), ranges("", "b", "c", "")},
		{ranges("a", "c"), ranges("", ""), ranges("a", "c"), nil},
		{nil, nil, nil, nil},
		{nil, ranges("", ""), nil, nil},
		{ranges("", ""), nil, nil, ranges("", "")},
		{ranges("", ""), ranges("", ""), ranges("", ""), nil},
		{ranges("", ""), ranges("b", "a"), nil, ranges("", "")},
		{ranges("b", "a"), ranges("", ""), nil, nil},
		{ranges("b", "c"), ranges("a", "d"), ranges("b", "c"), nil},
		{ranges("a", "d"), ranges("b", "c"), ranges("b", "c"), ranges("a", "b", "c", "d")},
		{ranges("a", "d"), ranges("a", "b"), ranges("a", "b"), ranges("b", "d")},
		{ranges("a", "d"), ranges("c", "d"), ranges("c", "d"), ranges("a", "c")},
		{ranges("a", "d"), ranges("a", "d"), ranges("a", "d"), nil},
		{ranges("a", "c", "c", "e"), ranges("b", "d"), ranges("b", "d"), ranges("a", "b", "d", "e")},
		{ranges("a", "e"), ranges("c", "d", "b", "c"), ranges("b", "d"), ranges("a", "b", "d", "e")},
		{ranges("a", "c", "b", "d"), ranges("b", "c"), ranges("b", "c"), ranges("a", "b", "c", "d")},
		{ranges("a", "b", "c", "d"), ranges("a", "b", "c", "d"), ranges("a", "b", "c", "d"), nil},
		{ranges("a", "b", "c", "d"), ranges("b", "c"), nil, ranges("a", "b", "c", "d")},
		{ranges("a", ""), ranges("b", ""), ranges("b", ""), ranges("a", "b")},
		{ranges("b", ""), ranges("a", ""), ranges("b", ""), nil},
		{ranges("", ""), ranges("", "\x00"), ranges("", "\x00"), ranges("\x00", "")},
		{ranges("", ""), ranges("\xff", ""), ranges("\xff", ""), ranges("", "\xff")},
		{ranges("c", "d", "a", "b"), ranges("", ""), ranges("a", "b", "c", "d"), nil},
		{ranges("", ""), ranges("c", "d", "a", "b"), ranges("a", "b", "c", "d"), ranges("", "a", "b", "c", "d", "")},
		{ranges("a", "b"), ranges("a", "a\x00"), ranges("a", "a\x00"), ranges("a\x00", "b")},
	} {
		if got := span.Meet(c.a, c.b); !slices.Equal(got, c.meet) {
			t.Errorf("row %d: Meet: %q, want %q", i, got, c.meet)
		}
		if got := span.Minus(c.a, c.b); !slices.Equal(got, c.minus) {
			t.Errorf("row %d: Minus: %q, want %q", i, got, c.minus)
		}
	}
}

// P6.3.
func TestCovers(t *testing.T) {
	for i, c := range []struct {
		a, b []api.Range
		want bool
	}{
		{ranges("a", "b", "b", "d"), ranges("a", "c"), true},
		{ranges("a", "b"), ranges("a", "c"), false},
		{nil, ranges("c", "a"), true},
		{nil, nil, true},
		{nil, ranges("a", "b"), false},
		{nil, ranges("", ""), false},
		{ranges("", ""), nil, true},
		{ranges("", ""), ranges("", "", "a", "b"), true},
		{ranges("a", ""), ranges("", ""), false},
		{ranges("", "a"), ranges("", ""), false},
		{ranges("", "a", "a", ""), ranges("", ""), true},
		{ranges("", "a", "a\x00", ""), ranges("", ""), false},
		{ranges("a", "b"), ranges("a", "b"), true},
		{ranges("a", "b"), ranges("a\x00", "b"), true},
		{ranges("a\x00", "b"), ranges("a", "b"), false},
		{ranges("a", "b"), ranges("a", "b\x00"), false},
		{ranges("b", "a"), ranges("a", "b"), false},
		{ranges("a", "z"), ranges("x", "y", "b", "c"), true},
		{ranges("a", "z"), ranges("x", "y", "b", "zz"), false},
		{ranges("b", "c", "a", "b"), ranges("a", "c", "c", "c"), true},
	} {
		if got := span.Covers(c.a, c.b); got != c.want {
			t.Errorf("row %d: %v", i, got)
		}
	}
}

// P6.3, P6.8: each pair of lists of one range, held against the chapter's words.
func TestListsOfOne(t *testing.T) {
	all := pairs(endTexts)
	for _, a := range all {
		for _, b := range all {
			checkLists(t, []api.Range{a}, []api.Range{b})
		}
	}
}

// P6.3, P6.8: each pair of lists of two ranges over a few texts.
func TestListsOfTwo(t *testing.T) {
	var lists [][]api.Range
	few := pairs([]string{"", "a", "a\x00", "b"})
	for _, x := range few {
		for _, y := range few {
			lists = append(lists, []api.Range{x, y})
		}
	}
	for _, a := range lists {
		for _, b := range lists {
			checkLists(t, a, b)
		}
	}
}

func TestListsAtRandom(t *testing.T) {
	r := rand.New(rand.NewSource(62))
	for range 20000 {
		checkLists(t, randomList(r, 8), randomList(r, 8))
	}
}

// P6.3: ranges of any texts are taken, also of those that are too long for keys.
func TestListsOfLongTexts(t *testing.T) {
	x := strings.Repeat("x", 1<<16)
	a := ranges(x+"a", x+"c", x+"b", x+"d", "", "\x00")
	b := ranges(x+"c\x00", "", x+"a", x+"a\x00")
	checkLists(t, a, b)
	if got, want := span.Normal(a...), ranges("", "\x00", x+"a", x+"d"); !slices.Equal(got, want) {
		t.Error("Normal")
	}
	if got, want := span.Meet(a, b), ranges(x+"a", x+"a\x00", x+"c\x00", x+"d"); !slices.Equal(got, want) {
		t.Error("Meet")
	}
}

// P6.8: Normal of a normal list is the list, whatever the order of the ranges,
// and whether some stand twice.
func TestNormalHangsOnNoOrder(t *testing.T) {
	r := rand.New(rand.NewSource(63))
	for range 5000 {
		l := randomList(r, 8)
		want := span.Normal(l...)
		if got := span.Normal(want...); !slices.Equal(got, want) {
			t.Fatalf("Normal of %q: %q", want, got)
		}
		twice := slices.Clone(l)
		for range r.Intn(4) {
			if len(l) > 0 {
				twice = append(twice, l[r.Intn(len(l))])
			}
		}
		r.Shuffle(len(twice), func(i, j int) { twice[i], twice[j] = twice[j], twice[i] })
		if got := span.Normal(twice...); !slices.Equal(got, want) {
			t.Fatalf("Normal of %q: %q, want %q", twice, got, want)
		}
	}
}

// P6.8: which texts are in the answers, of any texts and not of the ends alone.
func TestWhichTextsAreIn(t *testing.T) {
	r := rand.New(rand.NewSource(64))
	for range 3000 {
		a, b := randomList(r, 5), randomList(r, 5)
		normal, meet, minus := span.Normal(a...), span.Meet(a, b), span.Minus(a, b)
		for range 30 {
			text := randomText(r, 4)
			inA, inB := anyHas(a, text), anyHas(b, text)
			if anyHas(normal, text) != inA || anyHas(meet, text) != (inA && inB) || anyHas(minus, text) != (inA && !inB) {
				t.Fatalf("%q, %q: text %q", a, b, text)
			}
		}
		if span.Covers(a, b) != (len(span.Minus(b, a)) == 0) {
			t.Fatalf("Covers(%q, %q)", a, b)
		}
	}
}

// P6.9.
func TestMeetAndMinusTogether(t *testing.T) {
	r := rand.New(rand.NewSource(65))
	for range 5000 {
		a, b := randomList(r, 6), randomList(r, 6)
		meet, minus := span.Meet(a, b), span.Minus(a, b)
		if got := span.Minus(a, minus); !slices.Equal(got, meet) {
			t.Fatalf("Minus(a, Minus(a, b)) of %q, %q: %q, want %q", a, b, got, meet)
		}
		if got := span.Meet(meet, minus); len(got) != 0 {
			t.Fatalf("Meet and Minus of %q, %q share %q", a, b, got)
		}
		if got, want := span.Normal(slices.Concat(meet, minus)...), span.Normal(a...); !slices.Equal(got, want) {
			t.Fatalf("Meet and Minus of %q, %q together: %q, want %q", a, b, got, want)
		}
		if got := span.Meet(b, a); !slices.Equal(got, meet) {
			t.Fatalf("Meet(%q, %q): %q, the other way round %q", a, b, meet, got)
		}
	}
}

// numbered: a text for each number, rising with it.
func numbered(n int) string {
	s := strconv.Itoa(n)
	return strings.Repeat("0", 8-len(s)) + s
}

// R1: many ranges do not take long.
func TestManyRanges(t *testing.T) {
	const n = 1 << 17
	var a, b, want []api.Range
	for i := range n {
		a = append(a, api.Range{From: numbered(4 * i), To: numbered(4*i + 3)})
		b = append(b, api.Range{From: numbered(4*i + 2), To: numbered(4*i + 5)})
		want = append(want, api.Range{From: numbered(4*i + 2), To: numbered(4*i + 3)})
		if i > 0 {
			want = append(want, api.Range{From: numbered(4 * i), To: numbered(4*i + 1)})
		}
	}
	slices.SortFunc(want, func(x, y api.Range) int { return strings.Compare(x.From, y.From) })
	r := rand.New(rand.NewSource(66))
	r.Shuffle(n, func(i, j int) { a[i], a[j] = a[j], a[i] })
	r.Shuffle(n, func(i, j int) { b[i], b[j] = b[j], b[i] })
	if got := span.Meet(a, b); !slices.Equal(got, want) {
		t.Errorf("Meet: %d ranges", len(got))
	}
	whole := []api.Range{{From: numbered(0), To: numbered(4*n + 1)}}
	if got := span.Normal(slices.Concat(a, b)...); !slices.Equal(got, whole) {
		t.Errorf("Normal: %d ranges", len(got))
	}
	if !span.Covers(slices.Concat(a, b), whole) || span.Covers(a, whole) {
		t.Error("Covers")
	}
}

// R1: ranges that lie in one another.
func TestNestedRanges(t *testing.T) {
	const n = 1 << 16
	var l []api.Range
	for i := range n {
		l = append(l, api.Range{From: numbered(i), To: numbered(4*n - i)})
	}
	whole := []api.Range{{From: numbered(0), To: numbered(4 * n)}}
	if got := span.Normal(l...); !slices.Equal(got, whole) {
		t.Errorf("Normal: %d ranges", len(got))
	}
	if got := span.Minus(l, l[1:]); !slices.Equal(got, ranges(numbered(0), numbered(1), numbered(4*n-1), numbered(4*n))) {
		t.Errorf("Minus: %d ranges", len(got))
	}
}
