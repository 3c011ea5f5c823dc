package vers_test

import (
	"math/rand"
	"slices"
	"testing"

	"hawser/api"
	"hawser/delta"
	"hawser/vers"
)

// updatesOf makes updates, one behind the other, that may be behind a state.
func updatesOf(r *rand.Rand, s api.State, n int) []api.Update {
	m := &model{first: s, committed: s.Seq}
	for range n {
		m.apply(next(r, m))
	}
	return m.all
}

// P14.7: when what was committed is not seen: all ways to commit, ahead of and between the updates, come to one and the same book.
func TestHowItWasCommitted(t *testing.T) {
	for seed := range 40 {
		r := rand.New(rand.NewSource(int64(seed)))
		s := some()
		l := updatesOf(r, s, 12)
		end := s.Seq + r.Intn(len(l)+1)
		var books []*vers.Book
		for range 6 {
			books = append(books, committedTo(t, r, s, l, end))
		}
		m := &model{first: s, all: l, committed: end}
		for _, b := range books {
			holds(t, b, m)
			u := update(m.applied()+1, 1, 99, 1, "a", "further", 0)
			does(t, b, m.copy(), u)
		}
	}
}

// committedTo is a book that has applied updates, and by some way has come to have committed up to a number.
func committedTo(t *testing.T, r *rand.Rand, s api.State, l []api.Update, end int) *vers.Book {
	t.Helper()
	b, m := over(t, s)
	for _, u := range l {
		for r.Intn(2) == 0 {
			commits(t, b, m, min(end, m.committed+r.Intn(m.applied()-m.committed+1)))
		}
		does(t, b, m, u)
	}
	commits(t, b, m, end)
	return b
}

// P14.7: Store is the store that has applied all.
func TestStoreHasAppliedAll(t *testing.T) {
	r := rand.New(rand.NewSource(3))
	b, m := over(t, some())
	all := load(t, some())
	for range 60 {
		u := next(r, m)
		want, _ := all.Apply(u)
		if got, e := b.Apply(u); e != 0 || got != want {
			t.Fatalf("Apply(%s): %v, %d, want %v", brief(u), got, e, want)
		}
		m.apply(u)
		if r.Intn(3) == 0 {
			commits(t, b, m, m.committed+r.Intn(m.applied()-m.committed+1))
		}
		in(t, "Store", b.Store(), all.State())
	}
}

// P14.8: the row of a clean key is the same behind all numbers; behind Commit of all every key is clean, and nothing is left to offer.
func TestCleanKeysStay(t *testing.T) {
	for seed := range 60 {
		r := rand.New(rand.NewSource(int64(seed)))
		b, m := over(t, some())
		for range 25 {
			play(t, r, b, m)
			for _, key := range keys() {
				if delta.Check(api.Op{Kind: api.OpPut, Key: key}) == api.OK && b.Clean(key) {
					stays(t, b, key)
				}
			}
		}
		if e := b.Commit(b.Applied()); e != 0 {
			t.Fatal(e)
		}
		for _, key := range keys() {
			if !b.Clean(key) {
				t.Fatalf("%.20q is not clean", key)
			}
		}
		if l, e := b.From(b.Applied()); e != 0 || len(l) != 0 {
			t.Fatal("From(Applied):", len(l), e)
		}
		in(t, "Base", b.Base(), b.Store().State())
	}
}

// stays: a key's row is the same behind all numbers.
func stays(t *testing.T, b *vers.Book, key string) {
	t.Helper()
	want, ok := b.Get(key)
	for seq := b.Committed(); seq <= b.Applied(); seq++ {
		if r, there, e := b.At(key, seq); e != 0 || r != want || there != ok {
			t.Fatalf("At(%.20q, %d): %v, %v, %d, want %v, %v", key, seq, r, there, e, want, ok)
		}
	}
}

// P14.9: what From tells, applied to a store behind that number, makes the store behind applied.
func TestFromMakesTheRest(t *testing.T) {
	for seed := range 40 {
		r := rand.New(rand.NewSource(int64(seed)))
		b, m := over(t, some())
		for range 20 {
			play(t, r, b, m)
			for a := m.committed; a <= m.applied(); a++ {
				makes(t, b, m.behind(a), a)
			}
			makes(t, b, b.Base(), b.Committed())
		}
	}
}

func makes(t *testing.T, b *vers.Book, s *delta.Store, a int) {
	t.Helper()
	l, e := b.From(a)
	if e != 0 {
		t.Fatalf("From(%d): %d", a, e)
	}
	for _, u := range l {
		if _, e := s.Apply(u); e != 0 {
			t.Fatalf("Apply(%s): %d", brief(u), e)
		}
	}
	in(t, "what From makes", s, b.Store().State())
}

// A second book over the Base of a first one, which takes what From tells, is like the first one.
func TestOverBase(t *testing.T) {
	for seed := range 40 {
		r := rand.New(rand.NewSource(int64(seed)))
		b, m := over(t, some())
		for range 20 {
			play(t, r, b, m)
		}
		again := vers.New(b.Base())
		o := &model{first: b.Base().State(), committed: b.Committed()}
		l, _ := b.From(b.Committed())
		does(t, again, o, l...)
		holds(t, again, o)
		holds(t, again, &model{first: m.first, all: slices.Clone(m.all), committed: m.committed})
	}
}
