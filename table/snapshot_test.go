package table_test

import (
	"math/rand"
	"slices"
	"testing"

	"hawser/api"
	"hawser/table"
)

// small: each table over the keys a, b, c with none or one of two rows at each.
func small(t *testing.T) ([]*table.Table, []model) {
	var tables []*table.Table
	var models []model
	for set := range 27 {
		m := model{}
		for i, k := range []string{"a", "b", "c"} {
			if n := set / []int{1, 3, 9}[i] % 3; n > 0 {
				m.put(api.Row{Key: k, Value: "v", Version: n})
			}
		}
		tables, models = append(tables, of(t, m.rows()...)), append(models, m)
	}
	return tables, models
}

func TestEqualAndChanges(t *testing.T) {
	tables, models := small(t)
	for i := range tables {
		for j := range tables {
			alike(t, tables[i], tables[j], models[i], models[j])
			if tables[i].Equal(tables[j]) != (i == j) {
				t.Fatalf("Equal of %s and %s", show(models[i].rows()...), show(models[j].rows()...))
			}
			holds(t, tables[i], models[i])
			holds(t, tables[j], models[j])
		}
	}
}

// Rows that are unlike in one part alone.
func TestUnlikeParts(t *testing.T) {
	x := of(t, rowA, rowB)
	for _, r := range []api.Row{
		{Key: "b", Value: "z", Version: 4}, {Key: "b", Value: "y", Version: 3}, {Key: "b", Version: 3}, {Key: "b", Value: "zz", Version: 3},
	} {
		y := of(t, rowA, r)
		if x.Equal(y) || y.Equal(x) || !slices.Equal(x.Changes(y), []string{"b"}) || !slices.Equal(y.Changes(x), []string{"b"}) {
			t.Errorf("%s and %s: %q", show(rowB), show(r), x.Changes(y))
		}
	}
	y := of(t, rowA, api.Row{Key: "bz", Version: 3})
	if !slices.Equal(x.Changes(y), []string{"b", "bz"}) || !slices.Equal(y.Changes(x), []string{"b", "bz"}) {
		t.Errorf("another key: %q", x.Changes(y))
	}
}

// Two tables with the same rows are equal, however they came to them.
func TestEqualHoweverMade(t *testing.T) {
	r := rand.New(rand.NewSource(41))
	for range 100 {
		rows := many(r.Intn(60))
		a, b := of(t, rows...), table.New()
		for _, i := range r.Perm(len(rows)) {
			b.Put(api.Row{Key: rows[i].Key + "!", Version: 1})
			b.Put(api.Row{Key: rows[i].Key, Value: "other", Version: 1})
			b.Put(rows[i])
		}
		for _, x := range rows {
			b.Delete(x.Key + "!")
		}
		if !a.Equal(b) || !b.Equal(a) || len(a.Changes(b)) != 0 || len(b.Changes(a)) != 0 || !a.Equal(a) || len(a.Changes(a)) != 0 {
			t.Fatalf("%d rows: %q", len(rows), a.Changes(b))
		}
	}
}

// Unlike in one key of many, at each place; and unlike in all.
func TestOneChange(t *testing.T) {
	rows := many(100)
	x := of(t, rows...)
	for i, r := range rows {
		for _, y := range []*table.Table{x.Snapshot(), of(t, rows...)} {
			y.Put(api.Row{Key: r.Key, Value: "other", Version: 1})
			if x.Equal(y) || !slices.Equal(x.Changes(y), []string{r.Key}) || !slices.Equal(y.Changes(x), []string{r.Key}) {
				t.Fatalf("another row at %d: %q", i, x.Changes(y))
			}
			y.Delete(r.Key)
			if x.Equal(y) || !slices.Equal(x.Changes(y), []string{r.Key}) || !slices.Equal(y.Changes(x), []string{r.Key}) {
				t.Fatalf("no row at %d: %q", i, x.Changes(y))
			}
			y.Put(r)
			if !x.Equal(y) || len(x.Changes(y)) != 0 {
				t.Fatalf("the row at %d again: %q", i, x.Changes(y))
			}
		}
	}
	var keys []string
	for _, r := range rows {
		keys = append(keys, r.Key)
	}
	if got := x.Changes(table.New()); !slices.Equal(got, keys) {
		t.Fatalf("all keys: %q", got)
	}
	if got := table.New().Changes(x); !slices.Equal(got, keys) {
		t.Fatalf("all keys: %q", got)
	}
}

// P7.10: Changes names no key but those that were named, or that lie in the ranges.
func TestChangesAreNamed(t *testing.T) {
	r := rand.New(rand.NewSource(42))
	for range 300 {
		x, m := table.New(), model{}
		for range 40 {
			act(t, r, x, m)
		}
		s := x.Snapshot()
		var keys []string
		var in []api.Range
		for range r.Intn(6) {
			switch r.Intn(3) {
			case 0:
				row := randomRow(r)
				s.Put(row)
				keys = append(keys, row.Key)
			case 1:
				k := randomKey(r)
				s.Delete(k)
				keys = append(keys, k)
			default:
				g := randomRange(r)
				s.Replace(g, randomRows(r, g)...)
				in = append(in, g)
			}
		}
		for _, k := range s.Changes(x) {
			if !slices.Contains(keys, k) && !slices.ContainsFunc(in, func(g api.Range) bool { return lies(g, k) }) {
				t.Fatalf("Changes names %q, of keys %q and ranges %q", k, keys, in)
			}
		}
		holds(t, x, m)
	}
}

func TestSnapshot(t *testing.T) {
	x := of(t, rowA, rowB)
	s := x.Snapshot()
	ss := s.Snapshot()
	x.Put(api.Row{Key: "c", Version: 4})
	s.Delete("a")
	ss.Replace(api.Range{}, api.Row{Key: "d", Version: 5})
	again := ss.Snapshot()
	ss.Delete("d")
	holds(t, x, model{"a": rowA, "b": rowB, "c": {Key: "c", Version: 4}})
	holds(t, s, model{"b": rowB})
	holds(t, ss, model{})
	holds(t, again, model{"d": {Key: "d", Version: 5}})
	empty := table.New().Snapshot()
	holds(t, empty, model{})
	if e := empty.Put(rowA); e != 0 {
		t.Errorf("Put to a snapshot: %d", e)
	}
	has(t, empty, rowA)
}

// A snapshot that is asked of in the midst of going over the rows, and one that is gone over while others change.
func TestSnapshotWhileTold(t *testing.T) {
	x := of(t, many(30)...)
	for r := range x.Rows(api.Range{}) {
		s := x.Snapshot()
		x.Delete(r.Key)
		if _, ok := s.Get(r.Key); !ok || s.Len() != x.Len()+1 {
			t.Fatalf("%s is gone from the snapshot", show(r))
		}
		s.Replace(api.Range{})
	}
	if x.Len() != 0 {
		t.Fatalf("%d rows are left", x.Len())
	}
}
