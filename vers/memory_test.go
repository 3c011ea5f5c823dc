package vers_test

import (
	"math/rand"
	"runtime"
	"slices"
	"strings"
	"sync"
	"testing"

	"hawser/api"
	"hawser/delta"
	"hawser/vers"
)

// R3: what a book answers is new, its spare room too, and stays as it is.
func TestListsAnswered(t *testing.T) {
	for seed := range 60 {
		r := rand.New(rand.NewSource(int64(seed)))
		b, m := over(t, some())
		var kept, want [][]api.Update
		for range 25 {
			play(t, r, b, m)
			for seq := m.committed; seq <= m.applied(); seq++ {
				l, _ := b.From(seq)
				spoil(l)
				again, _ := b.From(seq)
				kept, want = append(kept, again), append(want, m.from(seq))
			}
			holds(t, b, m)
		}
		for i, l := range kept {
			if !slices.Equal(l, want[i]) {
				t.Fatal("an answer has changed")
			}
			spoil(l)
		}
		holds(t, b, m)
	}
}

func spoil(l []api.Update) {
	for i := range l[:cap(l)] {
		l[:cap(l)][i] = put(1, "spoilt", "spoilt")
	}
}

// P14.6: Store and Base are on their own from then on.
func TestStoresAnswered(t *testing.T) {
	for seed := range 60 {
		r := rand.New(rand.NewSource(int64(seed)))
		b, m := over(t, some())
		var stores []*delta.Store
		var states []api.State
		for range 20 {
			play(t, r, b, m)
			for _, ask := range []func() *delta.Store{b.Store, b.Base} {
				other := ask()
				other.Apply(update(other.Seq()+1, 5, 1, 2, "a", "", 0))
				other.Apply(update(other.Seq()+1, 6, 1, 1, "d", "the other's", 0))
				other.Table().Delete("c")
				s := ask()
				stores, states = append(stores, s), append(states, s.State())
			}
			holds(t, b, m)
		}
		for i, s := range stores {
			in(t, "a store answered earlier", s, states[i])
		}
	}
}

// What is asked changes nothing.
func TestAskingChangesNothing(t *testing.T) {
	b, m := over(t, some())
	does(t, b, m, update(8, 1, 3, 1, "a", "y", 0), update(9, 1, 4, 2, "f", "", 0))
	for range 3 {
		holds(t, b, m)
	}
}

// R4: two books know nothing of each other, and the same calls are answered the same.
func TestOnTheirOwn(t *testing.T) {
	first, m := over(t, some())
	second, o := over(t, some())
	r := rand.New(rand.NewSource(5))
	for range 80 {
		play(t, r, first, m)
		holds(t, second, o)
		play(t, r, second, o)
		holds(t, first, m)
	}
}

// What is committed is kept no longer: neither its keys and values nor the stores between.
func TestCommittedIsLetGo(t *testing.T) {
	const n, size = 200, 1 << 16
	b := vers.New(delta.New())
	fill := func() {
		for range n {
			seq := b.Applied() + 1
			if _, e := b.Apply(put(seq, "a", strings.Repeat("v", size))); e != 0 {
				t.Fatal(e)
			}
		}
	}
	var before, full, after runtime.MemStats
	runtime.GC()
	runtime.ReadMemStats(&before)
	fill()
	runtime.GC()
	runtime.ReadMemStats(&full)
	b.Commit(b.Applied() - 1)
	runtime.GC()
	runtime.ReadMemStats(&after)
	if full.HeapAlloc < before.HeapAlloc+n*size/2 || after.HeapAlloc > before.HeapAlloc+n*size/4 {
		t.Errorf("memory: %d, %d, %d", before.HeapAlloc, full.HeapAlloc, after.HeapAlloc)
	}
	if l, e := b.From(n - 1); e != 0 || len(l) != 1 || len(l[0].Op.Value) != size {
		t.Error("what is open still")
	}
}

// Books go to goroutines of their own, over one store; and one book is asked by several at once.
func TestGoroutines(t *testing.T) {
	s := load(t, some())
	looked, seen := over(t, some())
	does(t, looked, seen, update(8, 1, 3, 1, "a", "y", 0), update(9, 1, 4, 2, "f", "", 0))
	var wg sync.WaitGroup
	for g := range 6 {
		b, m := vers.New(s), &model{first: some(), committed: 7}
		wg.Go(func() {
			r := rand.New(rand.NewSource(int64(g)))
			for range 60 {
				u := next(r, m)
				want, _ := m.apply(u)
				if got, e := b.Apply(u); e != 0 || got != want {
					t.Errorf("Apply(%s): %v, %d, want %v", brief(u), got, e, want)
				}
				if r.Intn(4) == 0 {
					b.Commit(b.Applied() - 1)
				}
				if l, e := looked.From(8); e != 0 || len(l) != 1 || looked.Clean("a") || looked.Store().Seq() != 9 || looked.Base().Seq() != 7 {
					t.Error("From:", e)
				}
				if row, _, e := looked.At("a", 7); e != 0 || row.Value != "x" {
					t.Error("At:", e)
				}
			}
			if got := b.Store().State(); !sameState(got, m.behind(m.applied()).State()) {
				t.Error("Store:", show(got))
			}
		})
	}
	wg.Wait()
	in(t, "the store", s, some())
	holds(t, looked, seen)
}
