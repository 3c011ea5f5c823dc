package delta_test

import (
	"bytes"
	"math/rand"
	"slices"
	"testing"

	"hawser/api"
	"hawser/delta"
)

// R3: what is handed in stays, and is not kept; what is answered is the caller's own.

// spoilt fills a list, and the room behind its end.
func spoilt[T any](l []T, by T) {
	l = l[:cap(l)]
	for i := range l {
		l[i] = by
	}
}

// roomy is a list with some room behind its end, in which by stands.
func roomy[T any](l []T, by T) []T {
	long := append(slices.Clone(l), by, by, by, by)
	return long[: len(l) : len(l)+4]
}

// kept: a list and the room behind it are as roomy made them.
func kept[T comparable](t *testing.T, name string, l, want []T, by T) {
	t.Helper()
	if !slices.Equal(l, want) || !slices.Equal(l[len(l):cap(l)], []T{by, by, by, by}) {
		t.Fatalf("%s: what was handed in has changed", name)
	}
}

func TestBytesHandedIn(t *testing.T) {
	for _, u := range samples() {
		want := []byte(form(u))
		b := roomy(want, 0xee)
		got, e := delta.Decode(b)
		kept(t, "Decode", b, want, 0xee)
		spoilt(b, 0xdd)
		if e != 0 || got != u {
			t.Fatalf("Decode: %s, %d", brief(got), e)
		}
		wrong := append([]byte(form(u)), 0)
		b = roomy(wrong, 0xee)
		if _, e := delta.Decode(b); e != 86 {
			t.Fatalf("Decode: %d", e)
		}
		kept(t, "Decode", b, wrong, 0xee)
	}
	l := samples()
	s, _ := flow(l)
	for _, cut := range []int{0, 1, 5, 9, 20, len(s) - 1, len(s)} {
		want := []byte(s[:cut])
		b := roomy(want, 0xee)
		got, n := delta.Split(b)
		kept(t, "Split", b, want, 0xee)
		spoilt(b, 0xdd)
		if again, _ := flow(got); again != s[:n] {
			t.Fatalf("Split of %d bytes hangs on them", cut)
		}
	}
}

func TestUpdatesHandedIn(t *testing.T) {
	r := rand.New(rand.NewSource(89))
	for n := range 8 {
		want := some(r, n)
		l := roomy(want, put(77, "mark", "mark"))
		b, e := delta.Stream(l...)
		kept(t, "Stream", l, want, put(77, "mark", "mark"))
		spoilt(l, api.Update{})
		if s, _ := flow(want); e != 0 || string(b) != s {
			t.Fatalf("Stream: %d", e)
		}
		wrong := append(slices.Clone(want), api.Update{})
		l = roomy(wrong, put(77, "mark", "mark"))
		if _, e := delta.Stream(l...); e != 85 {
			t.Fatalf("Stream: %d", e)
		}
		kept(t, "Stream", l, wrong, put(77, "mark", "mark"))
	}
}

func TestBytesAnswered(t *testing.T) {
	for _, u := range samples() {
		a, _ := delta.Encode(u)
		b, _ := delta.Encode(u)
		spoilt(a, 0xdd)
		c, _ := delta.Encode(u)
		if string(b) != form(u) || !bytes.Equal(b, c) {
			t.Fatal("Encode: an answer hangs on another one")
		}
		x, _ := delta.Stream(u, u)
		y, _ := delta.Stream(u, u)
		spoilt(x, 0xdd)
		if s, _ := flow([]api.Update{u, u}); string(y) != s {
			t.Fatal("Stream: an answer hangs on another one")
		}
	}
	l := samples()
	s, _ := flow(l)
	a, _ := delta.Split([]byte(s))
	b, _ := delta.Split([]byte(s))
	spoilt(a, api.Update{})
	if !slices.Equal(b, l) {
		t.Fatal("Split: an answer hangs on another one")
	}
}

func TestRowsHandedIn(t *testing.T) {
	mark := api.Row{Key: "mark", Value: "mark", Version: 77}
	for n := range 12 {
		want := api.State{Seq: 300, Rows: append([]api.Row{sessionRow(1, request{1, api.Result{Code: 2}, 1})}, many(n)...)}
		given := api.State{Seq: 300, Rows: roomy(want.Rows, mark)}
		s := load(t, given)
		kept(t, "Load", given.Rows, want.Rows, mark)
		goes(t, s, update(301, 2, 1, 1, "new", "", 0), 1, 301)
		kept(t, "Load, and Apply", given.Rows, want.Rows, mark)
		s = load(t, given)
		spoilt(given.Rows, api.Row{Key: "spoilt", Version: -1})
		in(t, s, want)

		wrong := append(slices.Clone(want.Rows), api.Row{})
		given.Rows = roomy(wrong, mark)
		if _, e := delta.Load(given); e != 87 {
			t.Fatalf("Load: %d", e)
		}
		kept(t, "Load", given.Rows, wrong, mark)
	}
}

func TestRowsAnswered(t *testing.T) {
	s, m := behind(t)
	r := rand.New(rand.NewSource(90))
	for range 50 {
		a, b := s.State(), s.State()
		spoilt(a.Rows, api.Row{Key: "spoilt", Version: -1})
		if !sameState(b, m.state()) {
			t.Fatal("State: an answer hangs on another one")
		}
		holds(t, s, m)
		old := m.state()
		does(t, s, m, next(r, m))
		if !sameState(b, old) {
			t.Fatal("State: an answer has changed")
		}
	}
}

// R4: stores that are made one behind the other know nothing of each other, and the same again answers the same.
func TestSameAgain(t *testing.T) {
	run := func() (api.State, []api.Result) {
		r := rand.New(rand.NewSource(91))
		s, m := delta.New(), fresh()
		other, o := delta.New(), fresh()
		var l []api.Result
		for range 200 {
			u := next(r, m)
			m.apply(u)
			x, _ := s.Apply(u)
			l = append(l, x)
			does(t, other, o, update(o.seq+1, 1, o.seq+1, 1, "a", "other", 0))
		}
		return s.State(), l
	}
	state, results := run()
	for range 5 {
		if s, l := run(); !sameState(s, state) || !slices.Equal(l, results) {
			t.Fatal("unlike the first time")
		}
	}
}
