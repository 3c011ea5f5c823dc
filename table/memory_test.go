package table_test

import (
	"math/rand"
	"slices"
	"sync"
	"testing"

	"hawser/api"
	"hawser/table"
)

// R3: what is handed in stays, what is answered is the caller's own. R4: two tables know nothing of each other.

// mark stands in the room behind a list's end.
var mark = api.Row{Key: "mark", Value: "mark", Version: 77}

func roomy(l []api.Row) []api.Row {
	long := append(slices.Clone(l), mark, mark, mark, mark)
	return long[:len(l)]
}

func stays(t *testing.T, name string, got, want []api.Row) {
	t.Helper()
	if !slices.Equal(got, want) {
		t.Fatalf("%s: handed in %s, is now %s", name, show(want...), show(got...))
	}
	for _, r := range got[len(got):cap(got)][:4] {
		if r != mark {
			t.Fatalf("%s: %s behind the list's end", name, show(r))
		}
	}
}

func spoil(l []api.Row) {
	l = l[:cap(l)]
	for i := range l {
		l[i] = api.Row{Key: "spoilt", Value: "spoilt", Version: -1}
	}
}

func TestRowsHandedIn(t *testing.T) {
	for n := range 20 {
		want := many(n)
		rows := roomy(want)
		x, e := table.From(rows...)
		if e != 0 {
			t.Fatalf("From: %d", e)
		}
		stays(t, "From", rows, want)
		spoil(rows)
		has(t, x, want...)

		rows = roomy(want)
		x = of(t, many(40)...)
		if e := x.Replace(api.Range{}, rows...); e != 0 {
			t.Fatalf("Replace: %d", e)
		}
		stays(t, "Replace", rows, want)
		spoil(rows)
		has(t, x, want...)

		wrong := append(many(n), rowA, rowB, rowA) // what is refused stays, too
		rows = roomy(wrong)
		if _, e := table.From(rows...); e != 73 {
			t.Fatalf("From: %d", e)
		}
		if e := x.Replace(api.Range{}, rows...); e != 73 {
			t.Fatalf("Replace: %d", e)
		}
		stays(t, "wrong rows", rows, wrong)
		has(t, x, want...)
	}
}

func TestChangesAnswered(t *testing.T) {
	for n := range 20 {
		x, y := of(t, many(n)...), of(t, many(n/3)...)
		got := x.Changes(y)
		want := slices.Clone(got)
		other := x.Changes(y)
		back := y.Changes(x)
		all := got[:cap(got)]
		for i := range all {
			all[i] = "spoilt"
		}
		if !slices.Equal(other, want) || !slices.Equal(back, want) || !slices.Equal(x.Changes(y), want) {
			t.Fatalf("%d rows: an answer hangs on another one", n)
		}
		has(t, x, many(n)...)
		has(t, y, many(n/3)...)
	}
}

// Tables that are made one behind the other, in turns.
func TestIndependent(t *testing.T) {
	r := rand.New(rand.NewSource(51))
	var tables []*table.Table
	var models []model
	for range 6 {
		tables, models = append(tables, table.New()), append(models, model{})
	}
	for range 600 {
		i := r.Intn(len(tables))
		act(t, r, tables[i], models[i])
		j := r.Intn(len(tables))
		holds(t, tables[j], models[j])
	}
}

// A table that was copied as a value is a table of its own.
func TestCopied(t *testing.T) {
	x := of(t, many(20)...)
	c := *x
	x.Delete(number(3))
	c.Put(rowA)
	x.Put(rowB)
	m := model{}
	for _, r := range many(20) {
		m[r.Key] = r
	}
	o := m.copy()
	delete(m, number(3))
	m["b"] = rowB
	o["a"] = rowA
	holds(t, x, m)
	holds(t, &c, o)
}

// What was done to a table is all that counts: the same again answers the same.
func TestSameAgain(t *testing.T) {
	run := func() ([]api.Row, []string) {
		r := rand.New(rand.NewSource(52))
		x, m := table.New(), model{}
		var s *table.Table
		for i := range 300 {
			act(t, r, x, m)
			if i == 200 {
				s = x.Snapshot()
			}
		}
		return collect(x.Down(api.Range{})), x.Changes(s)
	}
	rows, keys := run()
	for range 5 {
		if r, k := run(); !slices.Equal(r, rows) || !slices.Equal(k, keys) {
			t.Fatal("unlike the first time")
		}
	}
}

// Snapshots go to goroutines of their own: what they share is never written to.
func TestGoroutines(t *testing.T) {
	x, m := of(t, many(200)...), model{}
	for _, r := range many(200) {
		m[r.Key] = r
	}
	var wg sync.WaitGroup
	for g := range 6 {
		s, c := x.Snapshot(), m.copy()
		wg.Go(func() {
			r := rand.New(rand.NewSource(int64(g)))
			for range 100 {
				k := number(r.Intn(220))
				if r.Intn(2) == 0 {
					s.Delete(k)
					delete(c, k)
				} else {
					row := api.Row{Key: k, Value: "g", Version: g + 1}
					s.Put(row)
					c.put(row)
				}
				if got := s.Changes(x); !slices.Equal(got, c.changes(m)) {
					t.Errorf("Changes: %q", got)
				}
			}
			if got := collect(s.Rows(api.Range{})); !slices.Equal(got, c.rows()) {
				t.Errorf("rows: %s", show(got...))
			}
		})
	}
	wg.Wait()
	holds(t, x, m)
}
