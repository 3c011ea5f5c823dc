package table_test

import (
	"slices"
	"strings"
	"testing"

	"hawser/api"
	"hawser/table"
)

// The limit: MaxRows rows.

func TestFromFull(t *testing.T) {
	rows := many(api.MaxRows + 1)
	x := of(t, rows[:api.MaxRows]...)
	if x.Len() != 1048576 || x.Size() != 4*1048576 {
		t.Errorf("%d rows, %d bytes", x.Len(), x.Size())
	}
	if y, e := table.From(rows...); e != 3 || y != nil {
		t.Errorf("one row more: %d", e)
	}
	for _, i := range []int{0, 1, 77, api.MaxRows} { // how many there are counts ahead of what they are
		wrong := slices.Clone(rows)
		wrong[i] = api.Row{}
		if y, e := table.From(wrong...); e != 3 || y != nil {
			t.Errorf("one row more, and a wrong one at %d: %d", i, e)
		}
	}
	wrong := slices.Clone(rows[:api.MaxRows])
	wrong[api.MaxRows-1] = api.Row{Key: "a", Version: 1}
	if y, e := table.From(wrong...); e != 73 || y != nil {
		t.Errorf("the last row does not rise: %d", e)
	}
}

func TestPutFull(t *testing.T) {
	rows := many(api.MaxRows)
	x := of(t, rows...)
	s := x.Snapshot()
	for _, r := range []api.Row{rowA, {Key: "z", Version: 1}, {Key: rows[500].Key + "\x00", Version: 1}} {
		if e := x.Put(r); e != 3 {
			t.Fatalf("Put of a new key: %d", e)
		}
	}
	if e := x.Put(api.Row{Key: "z", Value: strings.Repeat("v", 65537), Version: 1}); e != 71 {
		t.Errorf("Put of a wrong row: %d", e)
	}
	if !x.Equal(s) || len(x.Changes(s)) != 0 || x.Len() != api.MaxRows {
		t.Fatal("what was refused has changed something")
	}
	for _, i := range []int{0, 500, api.MaxRows - 1} {
		if e := x.Put(api.Row{Key: rows[i].Key, Value: "other", Version: 1}); e != 0 {
			t.Errorf("Put of a key that is there: %d", e)
		}
	}
	if x.Len() != api.MaxRows || !slices.Equal(x.Changes(s), []string{rows[0].Key, rows[500].Key, rows[api.MaxRows-1].Key}) {
		t.Errorf("%q", x.Changes(s))
	}
	if !x.Delete(rows[9].Key) || x.Put(rowA) != 0 || x.Len() != api.MaxRows || x.Put(rowB) != 3 {
		t.Errorf("Put behind Delete")
	}
	if s.Len() != api.MaxRows || s.Put(rowB) != 3 {
		t.Errorf("the snapshot is not full any more")
	}
}

func TestReplaceFull(t *testing.T) {
	rows := many(api.MaxRows)
	x := of(t, rows...)
	s := x.Snapshot()
	if e := x.Replace(api.Range{To: "k"}, rowA); e != 3 {
		t.Errorf("one row more: %d", e)
	}
	if e := x.Replace(api.Range{From: "l"}, api.Row{Key: "l", Version: 1}); e != 3 {
		t.Errorf("one row more: %d", e)
	}
	one := api.Range{From: rows[5].Key, To: rows[6].Key}
	two := []api.Row{{Key: rows[5].Key, Version: 1}, {Key: rows[5].Key + "\x00", Version: 1}}
	if e := x.Replace(one, two...); e != 3 {
		t.Errorf("two rows for one: %d", e)
	}
	if e := x.Replace(one, two[1], two[0]); e != 73 {
		t.Errorf("rows that do not rise: %d", e)
	}
	if e := x.Replace(one, two[0], two[1], rowA); e != 75 {
		t.Errorf("a row outside: %d", e)
	}
	if !x.Equal(s) {
		t.Fatal("what was refused has changed something")
	}
	if e := x.Replace(one, two[1]); e != 0 || x.Len() != api.MaxRows {
		t.Errorf("one row for one: %d", e)
	}
	if e := x.Replace(api.Range{To: rows[3].Key}, rowA, rowB); e != 0 || x.Len() != api.MaxRows-1 {
		t.Errorf("two rows for three: %d", e)
	}
	if !slices.Equal(s.Changes(x), []string{"a", "b", rows[0].Key, rows[1].Key, rows[2].Key, rows[5].Key, two[1].Key}) {
		t.Errorf("%q", s.Changes(x))
	}
}

func TestReplaceByAll(t *testing.T) {
	rows := many(api.MaxRows + 1)
	x := of(t, rowA, rowB)
	if e := x.Replace(api.Range{From: "k"}, rows[:api.MaxRows-1]...); e != 3 {
		t.Errorf("one row too many, beside two: %d", e)
	}
	if e := x.Replace(api.Range{}, rows...); e != 3 {
		t.Errorf("one row too many: %d", e)
	}
	wrong := slices.Clone(rows)
	wrong[api.MaxRows].Version = 0
	if e := x.Replace(api.Range{}, wrong...); e != 72 { // the rows count ahead of how many there are
		t.Errorf("one row too many, the last one wrong: %d", e)
	}
	has(t, x, rowA, rowB)
	if e := x.Replace(api.Range{From: "k"}, rows[:api.MaxRows-2]...); e != 0 || x.Len() != api.MaxRows {
		t.Errorf("as many as may be: %d", e)
	}
	if e := x.Replace(api.Range{}, rows[:api.MaxRows]...); e != 0 || x.Len() != api.MaxRows {
		t.Errorf("as many as may be: %d", e)
	}
	if e := x.Replace(api.Range{}); e != 0 || x.Len() != 0 || x.Size() != 0 {
		t.Errorf("none: %d", e)
	}
}

// A snapshot costs no more of a full table, nor does what is done to it: all but one way is shared.
func TestSnapshotsAreCheap(t *testing.T) {
	x := of(t, many(api.MaxRows)...)
	if n := testing.AllocsPerRun(10, func() { x.Snapshot() }); n > 2 {
		t.Errorf("Snapshot: %v allocations", n)
	}
	i := 0
	s := x.Snapshot()
	if n := testing.AllocsPerRun(1000, func() {
		i += 7919
		s.Delete(number(i % api.MaxRows))
		s.Put(api.Row{Key: number(i%api.MaxRows) + "!", Version: 1})
	}); n > 200 {
		t.Errorf("Delete and Put: %v allocations", n)
	}
	if n := testing.AllocsPerRun(10, func() { s.Snapshot().Replace(api.Range{From: number(77), To: number(900000)}) }); n > 400 {
		t.Errorf("Replace: %v allocations", n)
	}
}

// Many rows, put in rising order and in falling order, are as quick to find as any.
func TestManyPuts(t *testing.T) {
	rows := many(1 << 16)
	up, down := table.New(), table.New()
	for i := range rows {
		if up.Put(rows[i]) != 0 || down.Put(rows[len(rows)-1-i]) != 0 {
			t.Fatal("Put")
		}
	}
	if !up.Equal(down) || !up.Equal(of(t, rows...)) {
		t.Fatal("unlike")
	}
	for i, r := range rows {
		if got, e := up.At(i); e != 0 || got != r || down.Rank(r.Key) != i {
			t.Fatalf("At(%d): %s, %d", i, show(got), e)
		}
	}
}
