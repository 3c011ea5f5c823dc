package delta_test

import (
	"math"
	"math/rand"
	"slices"
	"strings"
	"testing"

	"hawser/api"
	"hawser/delta"
)

func noState(t *testing.T, why string, s api.State) {
	t.Helper()
	if x, e := delta.Load(s); e != 87 || x != nil {
		t.Errorf("%s: Load(%s): %d", why, show(s), e)
	}
}

// with is a state of these rows behind 300.
func with(rows ...api.Row) api.State { return api.State{Seq: 300, Rows: rows} }

func row(key, value string, version int) api.Row {
	return api.Row{Key: key, Value: value, Version: version}
}

func TestLoadExamples(t *testing.T) {
	in(t, load(t, api.State{}), api.State{})
	noState(t, "a version above Seq", api.State{Seq: 1, Rows: []api.Row{row("a", "x", 2)}})
	noState(t, "no session", api.State{Seq: 1, Rows: []api.Row{row("\x00a", "", 1)}})
}

func TestLoadSeq(t *testing.T) {
	for _, seq := range []int{0, 1, 2, top - 1, top} {
		in(t, load(t, api.State{Seq: seq}), api.State{Seq: seq})
	}
	for _, seq := range []int{math.MinInt, -1, top + 1, math.MaxInt} {
		noState(t, "Seq", api.State{Seq: seq})
		noState(t, "Seq", api.State{Seq: seq, Rows: []api.Row{row("a", "", 1)}})
	}
}

// Rows that may be, each alone and all together.
func TestLoadEdges(t *testing.T) {
	rows := []api.Row{
		row("\x00s\x01", "\x01\x01\xac\x02", 300), row("\x00s\x02", "\x01\x02\x00", 1), row("\x00s\x03", "\x80\x01\x03\x00", 7), row("\x00s\x04", "\x02\x03\x07", 7),
		row("\x00s\x05", number(top)+"\x03"+number(top), 2), row("\x00s\x06", number(top-1)+"\x04\x00", 300), row("\x00s\x0f", "\x01\x01\x01", 1), row("\x00s\x10", "\x7f\x01\x07", 7),
		row("\x01", "", 1), row("\x01\x00", "", 300), row("a", long(65536), 7), row("a\x00", "x", 7), row("aa", "x", 7), row(long(1024), "", 1), row("\xff", "", 1), row("\xff\xff", "\x00", 1),
	}
	in(t, load(t, with(rows...)), with(rows...))
	for i, r := range rows {
		in(t, load(t, with(r)), with(r))
		left := slices.Delete(slices.Clone(rows), i, i+1)
		in(t, load(t, with(left...)), with(left...))
	}
	s := load(t, with(rows...))
	for _, c := range []struct {
		client int
		want   request
	}{
		{1, request{1, api.Result{Code: 1, Version: 300}, 300}},
		{3, request{128, api.Result{Code: 3}, 7}},
		{5, request{top, api.Result{Code: 3, Version: top}, 2}},
		{6, request{top - 1, api.Result{Code: 4}, 300}},
		{7, request{}},
		{16, request{127, api.Result{Code: 1, Version: 7}, 7}},
	} {
		if n, r, q := s.Last(c.client); n != c.want.number || r != c.want.result || q != c.want.seq {
			t.Errorf("Last(%d): %d, %v, %d, want %v", c.client, n, r, q, c.want)
		}
	}
	goes(t, s, update(301, 5, top, 1, "b", "", 0), 3, top)
	goes(t, s, update(302, 6, top-1, 1, "b", "", 0), 4, 0)
	goes(t, s, update(303, 6, top-2, 1, "b", "", 0), 5, 0)
	goes(t, s, update(304, 6, top, 1, "b", "", 0), 1, 304)
}

// Each single reason, with rows ahead of it and behind it that may be.
func TestLoadRows(t *testing.T) {
	fine := row("m", "fine", 300)
	for why, r := range map[string]api.Row{
		"no key":                         row("", "", 1),
		"a key that is too long":         row(long(1025), "", 1),
		"a value that is too long":       row("a", long(65537), 1),
		"version 0":                      row("a", "", 0),
		"version -1":                     row("a", "", -1),
		"the least version":              row("a", "", math.MinInt),
		"a version above Seq":            row("a", "", 301),
		"a version that may not be":      row("a", "", top+1),
		"the greatest version":           row("a", "", math.MaxInt),
		"a key of a byte 0":              row("\x00", "", 1),
		"a key of two bytes":             row("\x00s", "\x01\x01\x01", 1),
		"a session of client 0":          row("\x00s\x00", "\x01\x01\x01", 1),
		"a session of client 17":         row("\x00s\x11", "\x01\x01\x01", 1),
		"a session of client 255":        row("\x00s\xff", "\x01\x01\x01", 1),
		"a session's key, and a byte":    row("\x00s\x01\x00", "\x01\x01\x01", 1),
		"another letter, t":              row("\x00t\x01", "\x01\x01\x01", 1),
		"another letter, S":              row("\x00S\x01", "\x01\x01\x01", 1),
		"two bytes 0":                    row("\x00\x00\x01", "\x01\x01\x01", 1),
		"a session's version of 0":       row("\x00s\x01", "\x01\x02\x00", 0),
		"done, and a version of 0":       row("\x00s\x01", "\x01\x01\x00", 0),
		"a session's version above Seq":  row("\x00s\x01", "\x01\x02\x00", 301),
		"a session's value of 65537":     row("\x00s\x01", long(65537), 1),
		"a long key that begins with 0":  row("\x00"+long(1023), "", 1),
		"a longer key that begins so":    row("\x00"+long(1024), "", 1),
		"a session's key in a long text": row("\x00s\x01"+long(1021), "\x01\x01\x01", 1),
	} {
		noState(t, why, with(r))
		ahead, behind := with(r, fine), with(fine, r)
		slices.SortFunc(ahead.Rows, func(a, b api.Row) int { return strings.Compare(a.Key, b.Key) })
		noState(t, why, ahead)
		noState(t, why, behind)
	}
	load(t, with(fine))
}

func TestLoadSessions(t *testing.T) {
	for why, value := range map[string]string{
		"nothing":                          "",
		"one number":                       "\x01",
		"two numbers":                      "\x01\x01",
		"two numbers, and half of one":     "\x01\x03\x80",
		"four numbers":                     "\x01\x01\x07\x00",
		"a byte behind":                    "\x01\x02\x00\x00",
		"much behind":                      "\x01\x02\x00" + long(65533),
		"number 0":                         "\x00\x01\x07",
		"a number above MaxNumber":         number(top+1) + "\x01\x07",
		"a number at its end":              "\xff\xff\xff\xff\xff\xff\xff\xff\xff\x01\x01\x07",
		"a number in a longer form":        "\x81\x00\x01\x07",
		"a code in a longer form":          "\x01\x81\x00\x07",
		"a version in a longer form":       "\x01\x01\x87\x00",
		"no version in a longer form":      "\x01\x02\x80\x00",
		"code 0":                           "\x01\x00\x00",
		"code 0, and the row's version":    "\x01\x00\x07",
		"code 5":                           "\x01\x05\x00",
		"code 5, and the row's version":    "\x01\x05\x07",
		"code 6":                           "\x01\x06\x00",
		"code 128":                         "\x01\x80\x01\x00",
		"code 257":                         "\x01\x81\x02\x07",
		"done, and no version":             "\x01\x01\x00",
		"done, and a lesser version":       "\x01\x01\x06",
		"done, and a greater version":      "\x01\x01\x08",
		"none, and a version":              "\x01\x02\x01",
		"none, and the row's version":      "\x01\x02\x07",
		"full, and a version":              "\x01\x04\x01",
		"full, and the row's version":      "\x01\x04\x07",
		"stale, and a version too great":   "\x01\x03" + number(top+1),
		"stale, and one of 64 bits":        "\x01\x03\xff\xff\xff\xff\xff\xff\xff\xff\xff\x01",
		"stale, and one of 65 bits":        "\x01\x03\xff\xff\xff\xff\xff\xff\xff\xff\xff\x02",
		"numbers that are written as text": "1 1 7",
	} {
		for _, key := range []string{"\x00s\x01", "\x00s\x10"} {
			noState(t, why, with(row(key, value, 7)))
			noState(t, why, with(row(key, value, 7), row("a", "", 1)))
		}
	}
	in(t, load(t, with(row("\x00s\x01", "\x01\x01\x07", 7))), with(row("\x00s\x01", "\x01\x01\x07", 7)))
}

func TestLoadOrder(t *testing.T) {
	session, other := row("\x00s\x01", "\x01\x01\x07", 7), row("\x00s\x02", "\x01\x01\x07", 7)
	a, b, c := row("a", "", 1), row("b", "", 1), row("c", "", 1)
	for _, l := range [][]api.Row{{a, a}, {b, a}, {a, b, b}, {a, c, b}, {b, a, c}, {a, session}, {other, session}, {session, session}, {row("aa", "", 1), a}, {row("\xff", "", 1), a}, {a, b, row("a", "x", 2)}, {session, a, other}} {
		noState(t, "keys that do not rise", with(l...))
	}
	in(t, load(t, with(session, other, a, b, c)), with(session, other, a, b, c))
}

// P8.11: a store that is loaded from a State goes on like the first one.
func TestLoadGoesOn(t *testing.T) {
	for seed := range 20 {
		r := rand.New(rand.NewSource(int64(seed + 100)))
		s, m := delta.New(), fresh()
		for range r.Intn(60) {
			does(t, s, m, next(r, m))
		}
		again := load(t, s.State())
		holds(t, again, m)
		for range 60 {
			u := next(r, m)
			want := m.apply(u)
			goes(t, s, u, want.Code, want.Version)
			goes(t, again, u, want.Code, want.Version)
			if !sameState(s.State(), again.State()) {
				t.Fatalf("behind %s: %s and %s", brief(u), show(s.State()), show(again.State()))
			}
			if r.Intn(10) == 0 {
				again = load(t, again.State())
			}
		}
		holds(t, again, m)
	}
}
