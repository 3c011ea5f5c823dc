package span_test

import (
	"math/rand"
	"slices"
	"sync"
	"testing"

	"hawser/api"
	"hawser/span"
)

// R3: what is handed in stays, what is answered is the caller's own.

// mark stands in the room behind a list's end.
var mark = api.Range{From: "mark", To: "marks"}

// roomy: a copy of a list, with marks behind its end.
func roomy(l []api.Range) []api.Range {
	long := append(slices.Clone(l), mark, mark, mark, mark)
	return long[:len(l)]
}

func stays(t *testing.T, name string, got, want []api.Range) {
	t.Helper()
	if !slices.Equal(got, want) {
		t.Fatalf("%s: handed in %q, is now %q", name, want, got)
	}
	for _, r := range got[len(got):cap(got)][:4] {
		if r != mark {
			t.Fatalf("%s: %q behind the list's end", name, r)
		}
	}
}

// spoil writes over a list and the room behind its end.
func spoil(l []api.Range) {
	l = l[:cap(l)]
	for i := range l {
		l[i] = api.Range{From: "spoilt", To: "spoilt!"}
	}
}

// calls: each call that answers ranges of two lists.
var calls = []struct {
	name string
	call func(a, b []api.Range) []api.Range
}{
	{"Normal", func(a, _ []api.Range) []api.Range { return span.Normal(a...) }},
	{"Meet", span.Meet},
	{"Minus", span.Minus},
}

func TestListsStay(t *testing.T) {
	r := rand.New(rand.NewSource(73))
	for range 2000 {
		wantA, wantB := randomList(r, 6), randomList(r, 6)
		if r.Intn(3) == 0 {
			wantA = span.Normal(wantA...) // a list that might be answered as it is
		}
		for _, c := range calls {
			a, b := roomy(wantA), roomy(wantB)
			got := c.call(a, b)
			stays(t, c.name, a, wantA)
			stays(t, c.name, b, wantB)
			want := slices.Clone(got)
			spoil(a)
			spoil(b)
			if !slices.Equal(got, want) {
				t.Fatalf("%s hangs on what was handed in: %q, was %q", c.name, got, want)
			}
			a, b = roomy(wantA), roomy(wantB)
			got = c.call(a, b)
			spoil(got)
			stays(t, c.name, a, wantA)
			stays(t, c.name, b, wantB)
			if again := c.call(a, b); !slices.Equal(again, want) {
				t.Fatalf("%s hangs on an earlier answer: %q, want %q", c.name, again, want)
			}
		}
		a, b := roomy(wantA), roomy(wantB)
		span.Covers(a, b)
		stays(t, "Covers", a, wantA)
		stays(t, "Covers", b, wantB)
	}
}

// R3: one list as both arguments.
func TestOneListTwice(t *testing.T) {
	r := rand.New(rand.NewSource(74))
	for range 500 {
		want := randomList(r, 6)
		l := roomy(want)
		if got := span.Meet(l, l); !slices.Equal(got, modelNormal(want)) {
			t.Fatalf("Meet of %q with itself: %q", l, got)
		}
		if got := span.Minus(l, l); len(got) != 0 {
			t.Fatalf("Minus of %q with itself: %q", l, got)
		}
		if !span.Covers(l, l) {
			t.Fatalf("Covers of %q and itself", l)
		}
		stays(t, "twice", l, want)
	}
}

func TestBucketsStay(t *testing.T) {
	r := rand.New(rand.NewSource(75))
	for range 500 {
		want := randomList(r, 6)
		if r.Intn(3) == 0 {
			want = span.Normal(want...)
		}
		l := roomy(want)
		got := mustBuckets(t, 2, l)
		stays(t, "Buckets", l, want)
		numbers := slices.Clone(got)
		spoil(l)
		if !slices.Equal(got, numbers) {
			t.Fatalf("Buckets hangs on what was handed in: %d, was %d", got, numbers)
		}
		clear(got[:cap(got)])
		if again := mustBuckets(t, 2, want); !slices.Equal(again, numbers) {
			t.Fatalf("Buckets hangs on an earlier answer: %d, want %d", again, numbers)
		}
	}
}

func TestRangesStay(t *testing.T) {
	r := rand.New(rand.NewSource(76))
	for range 500 {
		depth := 1 + r.Intn(3)
		long := []int{-5, -6, -7}
		for range r.Intn(9) {
			long = append([]int{r.Intn(16)}, long...)
		}
		handed := slices.Clone(long)
		n := len(long) - 3
		got := mustRanges(t, depth, handed[:n])
		if !slices.Equal(handed, long) {
			t.Fatalf("Ranges: handed in %d, is now %d", long, handed)
		}
		want := slices.Clone(got)
		for i := range handed {
			handed[i] = 3
		}
		if !slices.Equal(got, want) {
			t.Fatalf("Ranges hangs on what was handed in: %q, was %q", got, want)
		}
		spoil(got)
		if again := mustRanges(t, depth, long[:n]); !slices.Equal(again, want) {
			t.Fatalf("Ranges hangs on an earlier answer: %q, want %q", again, want)
		}
	}
}

// R3: nothing stands in the room behind an answer's end.
func TestRoomOfAnswers(t *testing.T) {
	l := ranges("a", "b", "c", "d", "e", "f", "g", "h", "i", "j")
	for _, c := range calls {
		got := c.call(l, nil)
		for _, r := range got[len(got):cap(got)] {
			if r != (api.Range{}) {
				t.Errorf("%s: %q", c.name, r)
			}
		}
	}
}

// R4: calls side by side, on the same lists and iterator, know nothing of each
// other.
func TestSideBySide(t *testing.T) {
	l := ranges("m", "", "a", "c", "b", "d", "x", "x")
	all := span.All(2)
	var wait sync.WaitGroup
	for range 8 {
		wait.Go(func() {
			for range 20 {
				if got := span.Normal(l...); !slices.Equal(got, ranges("a", "d", "m", "")) {
					t.Errorf("Normal: %q", got)
				}
				n := 0
				for b, r := range all {
					if b != n || r != modelOf(2, b) {
						t.Errorf("All: %d, %q", b, r)
					}
					n++
				}
				if got, err := span.Buckets(1, l...); err != api.OK || !slices.Equal(got, upTo(16)[6:]) {
					t.Errorf("Buckets: %d, %d", got, err)
				}
			}
		})
	}
	wait.Wait()
}
