package delta_test

import (
	"math/rand"
	"slices"
	"testing"

	"hawser/api"
	"hawser/delta"
)

// goes applies an update, and holds the answer against what is wanted.
func goes(t *testing.T, s *delta.Store, u api.Update, code api.Code, version int) {
	t.Helper()
	if got, e := s.Apply(u); e != 0 || got != (api.Result{Code: code, Version: version}) {
		t.Fatalf("Apply(%s): %v, %d, want %d, %d", brief(u), got, e, code, version)
	}
}

// stays: an update is refused, and nothing has changed by it.
func stays(t *testing.T, s *delta.Store, u api.Update, want api.Errno) {
	t.Helper()
	before := s.State()
	if got, e := s.Apply(u); e != want || got != (api.Result{}) {
		t.Fatalf("Apply(%s): %v, %d, want %d", brief(u), got, e, want)
	}
	in(t, s, before)
}

func TestNew(t *testing.T) {
	holds(t, delta.New(), fresh())
	for _, key := range []string{"", "a", "\x00", "\x00s\x01", long(1025)} {
		if r, ok := delta.New().Get(key); ok || r != (api.Row{}) {
			t.Errorf("Get(%.20q): %v, %v", key, r, ok)
		}
	}
}

func TestApplyExamples(t *testing.T) {
	s := delta.New()
	a := api.Row{Key: "a", Value: "x", Version: 1}
	goes(t, s, put(1, "a", "x"), api.CodeDone, 1)
	in(t, s, api.State{Seq: 1, Rows: []api.Row{{Key: "\x00s\x01", Value: "\x01\x01\x01", Version: 1}, a}})
	stays(t, s, put(1, "a", "x"), api.ErrDeltaSeq)
	goes(t, s, update(2, 1, 1, api.OpDelete, "a", "", 0), api.CodeDone, 1)
	in(t, s, api.State{Seq: 2, Rows: []api.Row{{Key: "\x00s\x01", Value: "\x01\x01\x01", Version: 1}, a}})
	goes(t, s, update(3, 1, 5, api.OpCas, "a", "y", 1), api.CodeDone, 3)
	a = api.Row{Key: "a", Value: "y", Version: 3}
	in(t, s, api.State{Seq: 3, Rows: []api.Row{{Key: "\x00s\x01", Value: "\x05\x01\x03", Version: 3}, a}})
	goes(t, s, update(4, 1, 4, api.OpDelete, "a", "", 0), api.CodeOld, 0)
	in(t, s, api.State{Seq: 4, Rows: []api.Row{{Key: "\x00s\x01", Value: "\x05\x01\x03", Version: 3}, a}})
	goes(t, s, update(5, 2, 1, api.OpCas, "a", "", 1), api.CodeStale, 3)
	goes(t, s, update(6, 2, 2, api.OpDelete, "b", "", 0), api.CodeNone, 0)
	in(t, s, api.State{Seq: 6, Rows: []api.Row{{Key: "\x00s\x01", Value: "\x05\x01\x03", Version: 3}, {Key: "\x00s\x02", Value: "\x02\x02\x00", Version: 6}, a}})
}

// Each kind, with a row of its key and without one.
func TestKinds(t *testing.T) {
	for _, c := range []struct {
		name    string
		op      api.Op
		code    api.Code
		version int
		row     api.Row // of the key, behind it
	}{
		{"a put of a row that is there", api.Op{Kind: 1, Key: "b", Value: "n"}, 1, 4, api.Row{Key: "b", Value: "n", Version: 4}},
		{"a put of the same value", api.Op{Kind: 1, Key: "b", Value: "y"}, 1, 4, api.Row{Key: "b", Value: "y", Version: 4}},
		{"a put of no value", api.Op{Kind: 1, Key: "b"}, 1, 4, api.Row{Key: "b", Version: 4}},
		{"a put of a new row", api.Op{Kind: 1, Key: "bb", Value: "n"}, 1, 4, api.Row{Key: "bb", Value: "n", Version: 4}},
		{"a delete", api.Op{Kind: 2, Key: "b"}, 1, 4, api.Row{}},
		{"a delete of what is not there", api.Op{Kind: 2, Key: "bb"}, 2, 0, api.Row{}},
		{"a cas with the right version", api.Op{Kind: 3, Key: "b", Value: "n", Version: 2}, 1, 4, api.Row{Key: "b", Value: "n", Version: 4}},
		{"a cas with an older version", api.Op{Kind: 3, Key: "b", Value: "n", Version: 1}, 3, 2, api.Row{Key: "b", Value: "y", Version: 2}},
		{"a cas with a later version", api.Op{Kind: 3, Key: "b", Value: "n", Version: 4}, 3, 2, api.Row{Key: "b", Value: "y", Version: 2}},
		{"a cas with the greatest version", api.Op{Kind: 3, Key: "b", Value: "n", Version: top}, 3, 2, api.Row{Key: "b", Value: "y", Version: 2}},
		{"a cas with 0, of a row that is there", api.Op{Kind: 3, Key: "b", Value: "n"}, 3, 2, api.Row{Key: "b", Value: "y", Version: 2}},
		{"a cas with 0, of none", api.Op{Kind: 3, Key: "bb", Value: "n"}, 1, 4, api.Row{Key: "bb", Value: "n", Version: 4}},
		{"a cas with a version, of none", api.Op{Kind: 3, Key: "bb", Value: "n", Version: 2}, 3, 0, api.Row{}},
		{"a cas with the next version, of none", api.Op{Kind: 3, Key: "bb", Value: "n", Version: 4}, 3, 0, api.Row{}},
		{"the longest key and value", api.Op{Kind: 1, Key: long(1024), Value: long(65536)}, 1, 4, api.Row{Key: long(1024), Value: long(65536), Version: 4}},
	} {
		s, m := behind(t, put(1, "a", "x"), put(2, "b", "y"), put(3, "c", "z"))
		u := api.Update{Seq: 4, Client: 9, Number: 77, Op: c.op}
		goes(t, s, u, c.code, c.version)
		if r, ok := s.Get(c.op.Key); r != c.row || ok != (c.row != api.Row{}) {
			t.Errorf("%s: %v, %v", c.name, r, ok)
		}
		if n, r, q := s.Last(9); n != 77 || r != (api.Result{Code: c.code, Version: c.version}) || q != 4 {
			t.Errorf("%s: Last: %d, %v, %d", c.name, n, r, q)
		}
		m.apply(u)
		holds(t, s, m)
		goes(t, s, update(5, 9, 77, 2, "a", "", 0), c.code, c.version) // the same request again
		m.seq++
		holds(t, s, m)
	}
}

// A key that is taken away has no version any more.
func TestDeleted(t *testing.T) {
	s, m := behind(t, put(1, "a", "x"), update(2, 2, 1, 2, "a", "", 0))
	does(t, s, m, update(3, 3, 1, 3, "a", "y", 1), update(4, 3, 2, 3, "a", "y", 2), update(5, 3, 3, 2, "a", "", 0))
	holds(t, s, m)
	goes(t, s, update(6, 3, 4, 3, "a", "z", 0), 1, 6)
	if r, ok := s.Get("a"); !ok || r != (api.Row{Key: "a", Value: "z", Version: 6}) {
		t.Errorf("%v, %v", r, ok)
	}
}

// P8.10: requests that come twice, too late, with gaps, of several clients in turns.
func TestOnce(t *testing.T) {
	s, m := behind(t)
	does(t, s, m,
		update(1, 1, 3, 1, "a", "first", 0),
		update(2, 1, 3, 1, "a", "again", 0),
		update(3, 2, 3, 1, "b", "other", 0), // another client's request with that number
		update(4, 1, 3, 2, "b", "", 0),
		update(5, 1, 2, 2, "b", "", 0), // an older one, which never came ahead
		update(6, 1, 1, 1, "c", "", 0),
		update(7, 2, 3, 2, "a", "", 0),
		update(8, 1, 9, 3, "a", "cas", 1), // five numbers are left out
		update(9, 1, 5, 2, "a", "", 0),    // one of these
		update(10, 1, 9, 3, "a", "cas", 8),
		update(11, 2, 4, 3, "a", "", 1),
		update(12, 2, 4, 3, "a", "", 8), // what was stale stays stale
		update(13, 2, 5, 2, "none", "", 0),
		update(14, 2, 6, 1, "none", "there", 0),
		update(15, 2, 5, 2, "none", "", 0),
		update(16, 16, 1, 2, "later", "", 0),
		update(17, 3, 1, 1, "later", "", 0),
		update(18, 16, 1, 2, "later", "", 0), // nothing was to be deleted then
		update(19, 16, top, 1, "z", "", 0),
		update(20, 16, top-1, 2, "z", "", 0),
		update(21, 16, top, 2, "z", "", 0),
	)
	want := []api.Row{
		{Key: "a", Value: "cas", Version: 8}, {Key: "b", Value: "other", Version: 3}, {Key: "later", Version: 17},
		{Key: "none", Value: "there", Version: 14}, {Key: "z", Version: 19},
	}
	rows := s.State().Rows
	if !slices.Equal(rows[4:], want) {
		t.Errorf("%s", show(api.State{Rows: rows}))
	}
	holds(t, s, m)
}

// As long as no greater number comes, a request answers the same, whatever comes with it.
func TestOnceAnswersTheSame(t *testing.T) {
	for _, first := range []api.Update{update(1, 5, 7, 1, "a", "x", 0), update(1, 5, 7, 2, "a", "", 0), update(1, 5, 7, 3, "a", "x", 0), update(1, 5, 7, 3, "a", "x", 9)} {
		s, m := behind(t)
		want := m.apply(first)
		goes(t, s, first, want.Code, want.Version)
		row := sessionRow(5, m.last[5])
		r := rand.New(rand.NewSource(86))
		for seq := 2; seq < 200; seq++ {
			u := next(r, m)
			if u.Client == 5 || seq%3 == 0 {
				u.Client, u.Number = 5, 7
				goes(t, s, u, want.Code, want.Version)
				m.seq++
			} else {
				does(t, s, m, u)
			}
			if got, ok := s.Get(row.Key); !ok || got != row {
				t.Fatalf("the session is %v, %v", got, ok)
			}
		}
		holds(t, s, m)
	}
}

func TestApplyRefuses(t *testing.T) {
	empty, _ := behind(t)
	some, _ := behind(t, put(1, "a", "x"), put(2, "b", "y"), update(3, 2, 4, 2, "a", "", 0))
	for _, s := range []*delta.Store{empty, some} {
		for _, u := range updates() {
			if e := faultOfUpdate(u); e != 0 {
				if got, f := s.Apply(u); f != e || got != (api.Result{}) { // ahead of what number is next
					t.Fatalf("Apply(%s): %v, %d, want %d", brief(u), got, f, e)
				}
			}
		}
		for _, op := range operations() {
			if e := fault(op); e != 0 {
				u := api.Update{Seq: s.Seq() + 1, Client: 1, Number: 9, Op: op}
				if got, f := s.Apply(u); f != e || got != (api.Result{}) {
					t.Fatalf("Apply(%s): %v, %d, want %d", brief(u), got, f, e)
				}
			}
		}
	}
	in(t, empty, api.State{})
	if some.Seq() != 3 || len(some.State().Rows) != 3 {
		t.Fatalf("what was refused has changed something: %s", show(some.State()))
	}
	for _, seq := range []int{-1, 0, 1, 2, 3, 5, 6, 1 << 30, top, top + 1} {
		stays(t, some, update(seq, 1, 9, 1, "c", "z", 0), 85)
		stays(t, some, update(seq, 1, 2, 2, "b", "", 0), 85) // nor is a request that came already answered
		stays(t, some, update(seq, 1, 1, 2, "b", "", 0), 85)
	}
	for _, seq := range []int{2, 3, top} {
		stays(t, empty, update(seq, 1, 1, 1, "c", "z", 0), 85)
	}
	stays(t, some, update(4, 0, 9, 1, "c", "z", 0), 83)
	stays(t, some, update(4, 1, 0, 1, "c", "z", 0), 84)
	stays(t, some, update(4, 1, 9, 4, "c", "z", 0), 80)
	stays(t, some, update(4, 1, 9, 1, "\x00s\x01", "z", 0), 81)
	stays(t, some, update(4, 1, 9, 2, "b", "z", 0), 82)
	stays(t, some, update(4, 1, 2, 1, "b", "z", 1), 84) // of a request that came already, too
	goes(t, some, update(4, 1, 9, 1, "c", "z", 0), 1, 4)
}

// The last number that there is.
func TestApplyAtTheEnd(t *testing.T) {
	s := load(t, api.State{Seq: top - 2, Rows: []api.Row{{Key: "a", Version: top - 2}}})
	goes(t, s, update(top-1, 16, top, 3, "a", "x", top-2), 1, top-1)
	stays(t, s, update(top+1, 1, 1, 1, "b", "", 0), 85)
	goes(t, s, update(top, 1, top-1, 1, "b", "y", 0), 1, top)
	want := s.State()
	for _, seq := range []int{1, top - 1, top, top + 1} {
		stays(t, s, update(seq, 1, top, 1, "c", "", 0), 85)
	}
	in(t, load(t, want), want)
	if n, r, q := s.Last(16); n != top || r != (api.Result{Code: 1, Version: top - 1}) || q != top-1 {
		t.Errorf("Last: %d, %v, %d", n, r, q)
	}
	if n, r, q := s.Last(1); n != top-1 || r != (api.Result{Code: 1, Version: top}) || q != top {
		t.Errorf("Last: %d, %v, %d", n, r, q)
	}
}

func TestLast(t *testing.T) {
	s, m := behind(t)
	for c := 1; c <= 16; c++ {
		does(t, s, m, update(c, c, c*1000, api.OpKind(1+c%3), "a", "", 0))
		holds(t, s, m)
	}
	for _, c := range clients {
		if n, r, q := s.Last(c); c >= 1 && c <= 16 {
			if n != c*1000 || q != c || r != m.last[c].result {
				t.Errorf("Last(%d): %d, %v, %d", c, n, r, q)
			}
		} else if n != 0 || r != (api.Result{}) || q != 0 {
			t.Errorf("Last(%d): %d, %v, %d", c, n, r, q)
		}
	}
}

// P8.6, P8.8, P8.10, P8.11: any updates, one behind the other.
func TestRuns(t *testing.T) {
	codes := map[api.Code]int{}
	for seed := range 40 {
		r := rand.New(rand.NewSource(int64(seed)))
		s, m := delta.New(), fresh()
		for range 150 {
			u := next(r, m)
			before, old := s.State(), m.copy()
			does(t, s, m, u)
			codes[m.last[u.Client].result.Code]++
			if u.Number < old.last[u.Client].number {
				codes[5]++
			}
			holds(t, s, m)
			narrow(t, before, s.State(), u)
		}
	}
	for _, c := range []api.Code{1, 2, 3, 5} {
		if codes[c] < 50 {
			t.Errorf("code %d: %d times", c, codes[c])
		}
	}
}

// narrow: no update changes a row that it does not name, but for its client's session; and no version exceeds Seq.
func narrow(t *testing.T, before, after api.State, u api.Update) {
	t.Helper()
	session, _ := delta.Session(u.Client)
	others := func(s api.State) []api.Row {
		return slices.DeleteFunc(slices.Clone(s.Rows), func(r api.Row) bool { return r.Key == u.Op.Key || r.Key == session })
	}
	if !slices.Equal(others(before), others(after)) {
		t.Fatalf("%s made %s of %s", brief(u), show(after), show(before))
	}
	for _, r := range after.Rows {
		if r.Version > after.Seq || r.Version < 1 {
			t.Fatalf("a version of %d behind %d", r.Version, after.Seq)
		}
	}
}
