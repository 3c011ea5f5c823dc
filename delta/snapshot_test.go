package delta_test

import (
	"math/rand"
	"slices"
	"sync"
	"testing"

	"hawser/api"
	"hawser/delta"
	"hawser/table"
)

// P8.8, P8.11: whatever is done with a Snapshot, a Table or a State, or with the store behind it, is not seen at the other.

func TestSnapshot(t *testing.T) {
	s, m := behind(t, put(1, "a", "x"), put(2, "b", "y"))
	c, o := s.Snapshot(), m.copy()
	if c == s {
		t.Fatal("the store itself")
	}
	does(t, s, m, update(3, 1, 3, 2, "a", "", 0), update(4, 2, 1, 1, "c", "s", 0))
	holds(t, c, o)
	does(t, c, o, update(3, 1, 3, 1, "a", "other", 0))
	holds(t, s, m)
	does(t, c, o, update(4, 1, 3, 2, "b", "", 0), update(5, 3, 9, 2, "b", "", 0))
	holds(t, s, m)
	holds(t, c, o)
	holds(t, delta.New().Snapshot(), fresh())
}

// Many stores, each a snapshot or a loading of another one, in turns.
func TestSnapshotsOfSnapshots(t *testing.T) {
	r := rand.New(rand.NewSource(87))
	stores, models := []*delta.Store{delta.New()}, []*model{fresh()}
	for range 1500 {
		i, j := r.Intn(len(stores)), r.Intn(len(stores))
		switch {
		case r.Intn(12) > 0:
			does(t, stores[i], models[i], next(r, models[i]))
		case len(stores) < 12:
			stores, models = append(stores, stores[i].Snapshot()), append(models, models[i].copy())
		case r.Intn(2) == 0:
			stores[j], models[j] = stores[i].Snapshot(), models[i].copy()
		default:
			stores[j], models[j] = load(t, stores[i].State()), models[i].copy()
		}
		holds(t, stores[j], models[j])
	}
	for i := range stores {
		holds(t, stores[i], models[i])
	}
}

// A table that was handed out is on its own.
func TestTable(t *testing.T) {
	s, m := behind(t, put(1, "a", "x"), put(2, "b", "y"), update(3, 7, 1, 2, "c", "", 0))
	x, y := s.Table(), s.Table()
	want := m.state().Rows
	if x.Len() != 4 || x.Size() != 16 || !x.Equal(y) {
		t.Errorf("%d rows, %d bytes", x.Len(), x.Size())
	}
	x.Put(api.Row{Key: "a", Value: "changed", Version: 99})
	x.Put(api.Row{Key: "\x00s\x01", Value: "changed", Version: 99})
	x.Put(api.Row{Key: "\x00own", Version: 1})
	x.Delete("b")
	holds(t, s, m)
	if !slices.Equal(rowsOf(y), want) {
		t.Error("a table is seen at another one")
	}
	x.Replace(api.Range{})
	holds(t, s, m)
	does(t, s, m, put(4, "a", "later"), put(5, "d", ""), update(6, 7, 2, 2, "b", "", 0))
	if x.Len() != 0 || !slices.Equal(rowsOf(y), want) {
		t.Error("what is done with the store is seen at its table")
	}
	holds(t, s, m)
	z, e := table.From(m.state().Rows...)
	if e != 0 || !s.Table().Equal(z) {
		t.Error("Table has other rows")
	}
}

// Two stores in one state, however they came to it, answer the same to the same updates.
func TestTwoAlike(t *testing.T) {
	for seed := range 10 {
		r := rand.New(rand.NewSource(int64(seed + 200)))
		first, m := delta.New(), fresh()
		for range 40 {
			does(t, first, m, next(r, m))
		}
		stores := []*delta.Store{first, first.Snapshot(), load(t, first.State()), load(t, m.state()), load(t, first.Snapshot().State()).Snapshot()}
		for range 60 {
			u := next(r, m)
			if r.Intn(9) == 0 {
				u.Seq += r.Intn(3) - 1
			}
			want, e := stores[0].Apply(u)
			for i, s := range stores[1:] {
				if got, f := s.Apply(u); got != want || f != e {
					t.Fatalf("store %d: Apply(%s): %v, %d, want %v, %d", i+1, brief(u), got, f, want, e)
				}
			}
			if e == 0 {
				m.apply(u)
			}
			for _, s := range stores {
				holds(t, s, m)
			}
		}
	}
}

// What is asked changes nothing.
func TestAskingChangesNothing(t *testing.T) {
	s, m := behind(t, put(1, "a", "x"), update(2, 3, 4, 2, "b", "", 0))
	for range 3 {
		s.Seq()
		s.Get("a")
		s.Get("none")
		s.Get("\x00s\x03")
		s.Last(3)
		s.Last(4)
		s.Last(99)
		s.State()
		s.Snapshot()
		s.Table()
		holds(t, s, m)
	}
}

// A store that was copied as a value is a store of its own.
func TestCopied(t *testing.T) {
	s, m := behind(t, put(1, "a", "x"), put(2, "b", "y"))
	c, o := *s, m.copy()
	does(t, s, m, update(3, 1, 3, 2, "a", "", 0))
	holds(t, &c, o)
	does(t, &c, o, update(3, 2, 1, 1, "b", "z", 0), update(4, 2, 2, 1, "c", "", 0))
	holds(t, s, m)
	holds(t, &c, o)
}

// Snapshots go to goroutines of their own: what they share is never written to.
func TestGoroutines(t *testing.T) {
	s, m := behind(t)
	r := rand.New(rand.NewSource(88))
	for range 100 {
		does(t, s, m, next(r, m))
	}
	var wg sync.WaitGroup
	for g := range 6 {
		c, o := s.Snapshot(), m.copy()
		wg.Go(func() {
			r := rand.New(rand.NewSource(int64(g)))
			for range 200 {
				u := next(r, o)
				want := o.apply(u)
				if got, e := c.Apply(u); e != 0 || got != want {
					t.Errorf("Apply(%s): %v, %d, want %v", brief(u), got, e, want)
				}
				if _, ok := s.Get(u.Op.Key); ok != (m.rows[u.Op.Key] != api.Row{}) {
					t.Errorf("Get(%q): %v", u.Op.Key, ok)
				}
			}
			if !sameState(c.State(), o.state()) {
				t.Errorf("%s, want %s", show(c.State()), show(o.state()))
			}
		})
	}
	wg.Wait()
	holds(t, s, m)
}
