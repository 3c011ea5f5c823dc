package table_test

import (
	"slices"
	"testing"

	"hawser/api"
	"hawser/table"
)

// R5: a table that no call made changes nothing, and answers zero values.

func unmade() map[string]*table.Table {
	return map[string]*table.Table{"nil": nil, "zero": {}, "new": new(table.Table)}
}

func TestUnmade(t *testing.T) {
	made := of(t, rowA, rowB)
	for name, x := range unmade() {
		for range 2 { // what was asked of it makes nothing of it
			if e := x.Put(rowA); e != 2 {
				t.Errorf("%s: Put: %d", name, e)
			}
			if e := x.Put(api.Row{}); e != 2 {
				t.Errorf("%s: Put of a wrong row: %d", name, e)
			}
			if x.Delete("a") || x.Delete("") {
				t.Errorf("%s: Delete", name)
			}
			if r, ok := x.Get("a"); ok || r != (api.Row{}) {
				t.Errorf("%s: Get: %s, %v", name, show(r), ok)
			}
			if x.Len() != 0 || x.Size() != 0 || x.Rank("") != 0 || x.Rank("\xff") != 0 {
				t.Errorf("%s: Len, Size, Rank", name)
			}
			for _, i := range []int{-1, 0, 1} {
				if r, e := x.At(i); e != 2 || r != (api.Row{}) {
					t.Errorf("%s: At(%d): %s, %d", name, i, show(r), e)
				}
			}
			if len(collect(x.Rows(api.Range{}))) != 0 || len(collect(x.Down(api.Range{From: "a"}))) != 0 {
				t.Errorf("%s: Rows, Down", name)
			}
			if x.Replace(api.Range{}, rowA) != 2 || x.Replace(api.Range{}) != 2 || x.Replace(api.Range{}, rowB, rowA) != 2 || x.Replace(api.Range{From: "b", To: "a"}, rowA, api.Row{}) != 2 {
				t.Errorf("%s: Replace", name)
			}
			if s := x.Snapshot(); s != nil {
				t.Errorf("%s: Snapshot", name)
			}
			if x.Equal(made) || x.Equal(table.New()) || x.Equal(x) || x.Equal(nil) {
				t.Errorf("%s: Equal", name)
			}
			if l := x.Changes(made); len(l) != 0 {
				t.Errorf("%s: Changes: %q", name, l)
			}
			if l := x.Changes(x); len(l) != 0 {
				t.Errorf("%s: Changes: %q", name, l)
			}
		}
	}
}

// P7.7, P7.10: an other that no call made counts as one without rows, for Equal as for Changes.
func TestUnmadeHandedIn(t *testing.T) {
	for name, x := range unmade() {
		tables, models := small(t)
		for i := range tables {
			for range 2 { // what it was held against makes nothing of it
				alike(t, tables[i], x, models[i], model{})
			}
			holds(t, tables[i], models[i])
			if x.Equal(tables[i]) || len(x.Changes(tables[i])) != 0 {
				t.Errorf("%s and %s", name, show(models[i].rows()...))
			}
		}
		made := of(t, rowA, rowB)
		if made.Equal(x) {
			t.Errorf("%s: Equal of a table with rows", name)
		}
		if l := made.Changes(x); !slices.Equal(l, []string{"a", "b"}) {
			t.Errorf("%s: Changes: %q", name, l)
		}
		for y := range unmade() {
			if x.Equal(unmade()[y]) || len(x.Changes(unmade()[y])) != 0 {
				t.Errorf("%s and %s", name, y)
			}
		}
		has(t, made, rowA, rowB)
	}
}

// However a table came to have no rows, it is like an other that no call made.
func TestUnmadeAndNoRows(t *testing.T) {
	deleted := of(t, rowA)
	before := deleted.Snapshot()
	deleted.Delete("a")
	replaced := of(t, rowA, rowB)
	replaced.Replace(api.Range{})
	for way, none := range map[string]*table.Table{
		"New": table.New(), "From": of(t), "Snapshot": table.New().Snapshot(),
		"Delete": deleted, "Snapshot behind Delete": deleted.Snapshot(), "Replace": replaced,
	} {
		for name, x := range unmade() {
			if !none.Equal(x) || len(none.Changes(x)) != 0 {
				t.Errorf("%s, without rows by %s: Equal %v, Changes %q", name, way, none.Equal(x), none.Changes(x))
			}
			if x.Equal(none) || len(x.Changes(none)) != 0 {
				t.Errorf("%s, against none by %s: Equal %v, Changes %q", name, way, x.Equal(none), x.Changes(none))
			}
			if before.Equal(x) || !slices.Equal(before.Changes(x), []string{"a"}) {
				t.Errorf("%s: a snapshot that has its row still", name)
			}
		}
		if e := none.Put(rowB); e != api.OK {
			t.Fatalf("%s: Put: %d", way, e)
		}
		for name, x := range unmade() {
			if none.Equal(x) || !slices.Equal(none.Changes(x), []string{"b"}) {
				t.Errorf("%s, and a row again, behind %s", name, way)
			}
		}
	}
}
