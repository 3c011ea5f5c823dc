package delta_test

import (
	"fmt"
	"slices"
	"testing"

	"hawser/api"
	"hawser/delta"
)

// The limit: MaxRows - MaxClients user rows, so that each client's session has room.

const most = 1048576 - 16

// many are n user rows, of versions from 1 on.
func many(n int) []api.Row {
	l := make([]api.Row, n)
	for i := range l {
		l[i] = api.Row{Key: fmt.Sprintf("k%07d", i), Version: i + 1}
	}
	return l
}

func TestFull(t *testing.T) {
	rows := many(most)
	s := load(t, api.State{Seq: most, Rows: rows})
	step := func(client, number int, kind api.OpKind, key string, version int, code api.Code, answer int) {
		t.Helper()
		value := "new"
		if kind == 2 {
			value = ""
		}
		goes(t, s, update(s.Seq()+1, client, number, kind, key, value, version), code, answer)
		if n, r, q := s.Last(client); n != number || r.Code != code || r.Version != answer || q > s.Seq() {
			t.Fatalf("Last(%d): %d, %v, %d", client, n, r, q)
		}
	}
	step(1, 1, 1, "a", 0, 4, 0)
	step(1, 1, 1, "a", 0, 4, 0)
	step(2, 1, 1, "z", 0, 4, 0)
	step(3, 1, 3, "a", 0, 4, 0)
	step(3, 2, 3, "a", 5, 3, 0)
	step(3, 3, 2, "a", 0, 2, 0)
	if s.Table().Len() != most+3 {
		t.Fatalf("%d rows", s.Table().Len())
	}
	step(4, 1, 1, rows[0].Key, 0, 1, s.Seq()+1)
	step(4, 2, 3, rows[1].Key, 2, 1, s.Seq()+1)
	step(4, 3, 3, rows[2].Key, 0, 3, 3)
	for c := 5; c <= 16; c++ {
		step(c, 1, 1, "a", 0, 4, 0)
	}
	if _, ok := s.Get("a"); ok || s.Table().Len() != 1048576 {
		t.Fatalf("%d rows", s.Table().Len())
	}
	again := load(t, s.State()) // as many rows as there may be
	if !sameState(again.State(), s.State()) {
		t.Fatal("Load of State")
	}
	step(1, 2, 1, "a", 0, 4, 0)
	step(1, 3, 2, rows[9].Key, 0, 1, s.Seq()+1)
	step(2, 1, 1, "z", 0, 4, 0) // the same request again, though there is room now
	step(1, 4, 1, "a", 0, 1, s.Seq()+1)
	step(1, 5, 1, "b", 0, 4, 0)
	step(1, 6, 2, "a", 0, 1, s.Seq()+1)
	step(1, 7, 3, "b", 0, 1, s.Seq()+1)
	step(1, 8, 3, "c", 0, 4, 0)
	goes(t, again, update(again.Seq()+1, 1, 2, 1, "b", "", 0), 4, 0)
}

// The last places are taken one by one, while sessions come and stay beside them.
func TestNearlyFull(t *testing.T) {
	rows := many(most - 2)
	s := load(t, api.State{Seq: most, Rows: rows})
	goes(t, s, update(most+1, 1, 1, 1, "a", "", 0), 1, most+1)
	goes(t, s, update(most+2, 2, 1, 3, "b", "", 0), 1, most+2)
	goes(t, s, update(most+3, 3, 1, 1, "c", "", 0), 4, 0)
	goes(t, s, update(most+4, 3, 2, 1, "b", "", 0), 1, most+4)
	if s.Table().Len() != most+3 {
		t.Errorf("%d rows", s.Table().Len())
	}
}

func TestLoadMany(t *testing.T) {
	rows := many(1048577)
	tooMany := func(why string, l []api.Row) {
		t.Helper()
		if x, e := delta.Load(api.State{Seq: 1 << 21, Rows: l}); e != 87 || x != nil {
			t.Errorf("%s: %d", why, e)
		}
	}
	tooMany("a user row too many", rows[:most+1])
	tooMany("as many user rows as a table may have", rows[:1048576])
	tooMany("a row more than a table may have", rows)
	var sessions []api.Row
	for c := 1; c <= 16; c++ {
		sessions = append(sessions, sessionRow(c, request{1, api.Result{Code: 2}, 1}))
	}
	tooMany("a user row too many, beside a session", slices.Concat(sessions[:1], rows[:most+1]))
	tooMany("a user row too many, beside all sessions", slices.Concat(sessions, rows[:most+1]))
	full := api.State{Seq: 1 << 21, Rows: slices.Concat(sessions, rows[:most])}
	if s := load(t, full); !sameState(s.State(), full) {
		t.Error("as many rows as there may be")
	}
}

// The least users' keys count like all others.
func TestFullOfLeast(t *testing.T) {
	least := []api.Row{{Key: "\x01", Version: 1}, {Key: "\x01\x00", Version: 1}, {Key: "\x01\xff", Version: 1}}
	s := load(t, api.State{Seq: most, Rows: slices.Concat(least, many(most-3))})
	goes(t, s, update(most+1, 1, 1, 1, "\x01\x01", "", 0), 4, 0)
	goes(t, s, update(most+2, 1, 2, 1, "\x01", "x", 0), 1, most+2)
	goes(t, s, update(most+3, 1, 3, 2, "\x01", "", 0), 1, most+3)
	goes(t, s, update(most+4, 1, 4, 1, "\x01\x01", "", 0), 1, most+4)
	goes(t, s, update(most+5, 1, 5, 1, "\x01", "", 0), 4, 0)
	if x, e := delta.Load(api.State{Seq: most, Rows: slices.Concat(least, many(most-2))}); e != 87 || x != nil {
		t.Errorf("a user row too many: %d", e)
	}
}

// A snapshot, and what is done behind it, costs no more of a full store.
func TestSnapshotsAreCheap(t *testing.T) {
	s := load(t, api.State{Seq: most, Rows: many(most)})
	if n := testing.AllocsPerRun(10, func() { s.Snapshot() }); n > 2 {
		t.Errorf("Snapshot: %v allocations", n)
	}
	if n := testing.AllocsPerRun(10, func() { s.Table() }); n > 2 {
		t.Errorf("Table: %v allocations", n)
	}
	x := s.Snapshot()
	if n := testing.AllocsPerRun(100, func() { x.Apply(update(x.Seq()+1, 1, x.Seq()+1, 1, "k0000777", "v", 0)) }); n > 200 {
		t.Errorf("Apply: %v allocations", n)
	}
}
