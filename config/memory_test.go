package config_test

import (
	"slices"
	"sync"
	"testing"

	"hawser/api"
	"hawser/config"
)

// R3: what is handed in stays, and is not kept; what is answered is the caller's own.

const mark = -77

// roomy: a copy of a list, with marks in the room behind its end.
func roomy[T ~[]E, E any](l T, mark E) T {
	long := append(slices.Clone(l), mark, mark, mark, mark)
	return long[: len(l) : len(l)+4]
}

// spoil writes over a list and the room behind its end.
func spoil[T ~[]E, E any](l T, by E) {
	l = l[:cap(l)]
	for i := range l {
		l[i] = by
	}
}

func stays(t *testing.T, name string, got, want []int) {
	t.Helper()
	if !slices.Equal(got, want) || !slices.Equal(got[len(got):cap(got)], []int{mark, mark, mark, mark}) {
		t.Fatalf("%s: handed in %v, is now %v", name, want, got[:cap(got)])
	}
}

// makers: each call that answers a configuration made of a chain.
func makers() map[string]func(chain []int) api.Config {
	return map[string]func([]int) api.Config{
		"First":   func(l []int) api.Config { return first(config.First(l...)) },
		"Without": func(l []int) api.Config { return first(config.Without(api.Config{Epoch: 3, Chain: l}, 2)) },
		"the last one": func(l []int) api.Config {
			return first(config.Without(api.Config{Epoch: 3, Chain: l}, l[len(l)-1]))
		},
		"the first one": func(l []int) api.Config { return first(config.Without(api.Config{Epoch: 3, Chain: l}, l[0])) },
		"With":          func(l []int) api.Config { return first(config.With(api.Config{Epoch: 3, Chain: l}, 8)) },
	}
}

func first(c api.Config, _ api.Errno) api.Config { return c }

func TestChainsStay(t *testing.T) {
	for name, call := range makers() {
		for _, want := range append(chains(4), []int{1, 2, 3, 4, 5, 6, 7}, []int{1, 2, 3, 4, 5, 6, 7, 8}, []int{1, 1}, []int{9}) {
			given := roomy(want, mark)
			got := call(given)
			stays(t, name, given, want)
			kept := clone(got)
			spoil(given, -5)
			if !same(got, kept) {
				t.Fatalf("%s hangs on what was handed in: %v, was %v", name, got, kept)
			}
			given = roomy(want, mark)
			got, other := call(given), call(given)
			spoil(got.Chain, -5)
			stays(t, name, given, want)
			if !same(other, kept) || !same(call(given), kept) {
				t.Fatalf("%s hangs on an earlier answer", name)
			}
		}
	}
}

func TestChainsLookedAt(t *testing.T) {
	for _, want := range append(chains(4), []int{1, 2, 3, 4, 5, 6, 7, 8}, []int{1, 1}, []int{9}, make([]int, 20)) {
		l := roomy(want, mark)
		c := api.Config{Epoch: 3, Chain: l}
		other := api.Config{Epoch: 4, Chain: roomy(append(slices.Clone(want), 8), mark)}
		config.Check(c)
		config.Head(c)
		config.Tail(c)
		config.Prev(c, 2)
		config.Next(c, 2)
		config.Role(c, 2)
		config.Follows(c, other)
		config.Follows(other, c)
		config.Alike(c, other)
		b, e := config.Encode(c)
		stays(t, "a chain", l, want)
		stays(t, "another chain", other.Chain, append(slices.Clone(want), 8))
		spoil(b, 0xdd)
		stays(t, "a chain", l, want)
		again, f := config.Encode(c)
		if e != f || e == 0 && string(again) != string(laid(c)) {
			t.Fatalf("Encode hangs on an earlier answer: %x", again)
		}
	}
}

func TestBytesStay(t *testing.T) {
	for _, l := range append(chains(4), []int{1, 1}, []int{9}, nil) {
		want := laid(cf(3, l...))
		b := roomy(want, 0xee)
		got, e := config.Decode(b)
		if string(b) != string(want) || string(b[len(b):cap(b)]) != "\xee\xee\xee\xee" {
			t.Fatal("Decode: what was handed in has changed")
		}
		kept := clone(got)
		spoil(b, 0xdd)
		if !same(got, kept) {
			t.Fatal("Decode: an answer hangs on what was handed in")
		}
		other, _ := config.Decode(want)
		spoil(got.Chain, -5)
		again, f := config.Decode(want)
		if e != f || !same(other, kept) || !same(again, kept) {
			t.Fatal("Decode: an answer hangs on another one")
		}
	}
}

// R4: goroutines ask side by side of one configuration.
func TestGoroutines(t *testing.T) {
	c := cf(4, 2, 5, 1)
	var wg sync.WaitGroup
	for range 8 {
		wg.Go(func() {
			for range 200 {
				more, e := config.With(c, 8)
				less, f := config.Without(more, 5)
				b, g := config.Encode(less)
				back, h := config.Decode(b)
				if e != 0 || f != 0 || g != 0 || h != 0 || !same(back, cf(6, 2, 1, 8)) || !config.Follows(c, more) {
					t.Error(more, less, back)
				}
			}
		})
	}
	wg.Wait()
}
