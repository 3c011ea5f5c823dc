package table_test

import (
	"slices"
	"testing"

	"hawser/api"
	"hawser/table"
)

// R5: a table that no call made changes nothing, and answers zero values.

func unmade() map[string]*table.Table {
	return map[string]*table.Table{"nil": nil, "zero": {}, "new": new(table.Table)}
}

func TestUnmade(t *testing.T) {
	made := of(t, rowA, rowB)
	for name, x := range unmade() {
		for range 2 { // what was asked of it makes nothing of it
			if e := x.Put(rowA); e != 2 {
				t.Errorf("%s: Put: %d", name, e)
			}
			if e := x.Put(api.Row{}); e != 2 {
				t.Errorf("%s: Put of a wrong row: %d", name, e)
			}
			if x.Delete("a") || x.Delete("") {
				t.Errorf("%s: Delete", name)
			}
			if r, ok := x.Get("a"); ok || r != (api.Row{}) {
				t.Errorf("%s: Get: %s, %v", name, show(r), ok)
			}
			if x.Len() != 0 || x.Size() != 0 || x.Rank("") != 0 || x.Rank("\xff") != 0 {
				t.Errorf("%s: Len, Size, Rank", name)
			}
			for _, i := range []int{-1, 0, 1} {
				if r, e := x.At(i); e != 2 || r != (api.Row{}) {
					t.Errorf("%s: At(%d): %s, %d", name, i, show(r), e)
				}
			}
			if len(collect(x.Rows(api.Range{}))) != 0 || len(collect(x.Down(api.Range{From: "a"}))) != 0 {
				t.Errorf("%s: Rows, Down", name)
			}
			if x.Replace(api.Range{}, rowA) != 2 || x.Replace(api.Range{}) != 2 || x.Replace(api.Range{}, rowB, rowA) != 2 || x.Replace(api.Range{From: "b", To: "a"}, rowA, api.Row{}) != 2 {
				t.Errorf("%s: Replace", name)
			}
			if s := x.Snapshot(); s != nil {
				t.Errorf("%s: Snapshot", name)
			}
			if x.Equal(made) || x.Equal(table.New()) || x.Equal(x) || x.Equal(nil) {
				t.Errorf("%s: Equal", name)
			}
			if l := x.Changes(made); len(l) != 0 {
				t.Errorf("%s: Changes: %q", name, l)
			}
			if l := x.Changes(x); len(l) != 0 {
				t.Errorf("%s: Changes: %q", name, l)
			}
		}
	}
}

func TestUnmadeHandedIn(t *testing.T) {
	for name, x := range unmade() {
		made := of(t, rowA, rowB)
		if made.Equal(x) || table.New().Equal(x) {
			t.Errorf("%s: Equal", name)
		}
		if l := made.Changes(x); !slices.Equal(l, []string{"a", "b"}) {
			t.Errorf("%s: Changes: %q", name, l)
		}
		if l := table.New().Changes(x); len(l) != 0 {
			t.Errorf("%s: Changes: %q", name, l)
		}
		for y := range unmade() {
			if x.Equal(unmade()[y]) || len(x.Changes(unmade()[y])) != 0 {
				t.Errorf("%s and %s", name, y)
			}
		}
		has(t, made, rowA, rowB)
	}
}
