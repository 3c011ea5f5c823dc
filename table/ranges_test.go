package table_test

import (
	"iter"
	"math/rand"
	"slices"
	"testing"

	"hawser/api"
	"hawser/table"
)

// everyEdge: a table with a row for each of the edges that may be a key, and its model.
func everyEdge(t *testing.T) (*table.Table, model) {
	m := model{}
	for i, k := range edges {
		m.put(api.Row{Key: k, Value: k, Version: i + 1})
	}
	return of(t, m.rows()...), m
}

func TestRowsAndDown(t *testing.T) {
	x, m := everyEdge(t)
	for _, r := range ranges() {
		told(t, x, m, r)
	}
	x, m = of(t, rowA), model{"a": rowA}
	for _, r := range ranges() {
		told(t, x, m, r)
	}
}

// Each table over three keys, each range over seven texts.
func TestRowsOfSmallTables(t *testing.T) {
	texts := []string{"", "a", "a\x00", "b", "c", "c\x00", "d"}
	for set := range 8 {
		m := model{}
		for i, k := range []string{"a", "b", "c"} {
			if set>>i&1 == 1 {
				m.put(api.Row{Key: k, Version: 1})
			}
		}
		x := of(t, m.rows()...)
		for _, from := range texts {
			for _, to := range texts {
				told(t, x, m, api.Range{From: from, To: to})
			}
		}
	}
}

// P7.8: Rows over two ranges that touch is Rows over the one, and then over the other.
func TestRangesThatTouch(t *testing.T) {
	x, _ := everyEdge(t)
	for _, from := range edges {
		for _, mid := range edges {
			for _, to := range edges {
				if mid == "" || compare(mid, from) < 0 || to != "" && compare(to, mid) < 0 {
					continue
				}
				whole := collect(x.Rows(api.Range{From: from, To: to}))
				both := append(collect(x.Rows(api.Range{From: from, To: mid})), collect(x.Rows(api.Range{From: mid, To: to}))...)
				if !slices.Equal(whole, both) {
					t.Fatalf("from %q, %q, to %q: %s and %s", from, mid, to, show(whole...), show(both...))
				}
				down := append(collect(x.Down(api.Range{From: mid, To: to})), collect(x.Down(api.Range{From: from, To: mid}))...)
				if !slices.Equal(backward(whole), down) {
					t.Fatalf("down from %q, %q, to %q: %s and %s", from, mid, to, show(whole...), show(down...))
				}
			}
		}
	}
}

// tellers: both iterators, by name.
var tellers = map[string]func(*table.Table, api.Range) iter.Seq[api.Row]{
	"Rows": (*table.Table).Rows,
	"Down": (*table.Table).Down,
}

func TestLeftAtAnyTime(t *testing.T) {
	for name, tell := range tellers {
		x, m := everyEdge(t)
		for _, r := range []api.Range{{}, {From: "a"}, {To: "b"}, {From: "a", To: "\xff"}, {From: "b", To: "a"}} {
			seq := tell(x, r)
			whole := collect(seq)
			for n := range len(whole) + 1 {
				var got []api.Row
				for row := range seq {
					if len(got) == n {
						break
					}
					got = append(got, row)
				}
				if !slices.Equal(got, whole[:n]) {
					t.Fatalf("%s left behind %d: %s", name, n, show(got...))
				}
			}
			if !slices.Equal(collect(seq), whole) {
				t.Fatalf("%s gone over again: %s", name, show(collect(seq)...))
			}
		}
		holds(t, x, m)
	}
}

// An iterator that is called by hand asks no more as soon as it is told to stop.
func TestStops(t *testing.T) {
	for name, tell := range tellers {
		x := of(t, many(50)...)
		for n := range 50 {
			calls := 0
			tell(x, api.Range{})(func(api.Row) bool { calls++; return calls <= n })
			if calls != n+1 {
				t.Fatalf("%s: %d calls, want %d", name, calls, n+1)
			}
		}
	}
}

func TestNested(t *testing.T) {
	for name, tell := range tellers {
		x := of(t, many(12)...)
		seq := tell(x, api.Range{})
		whole := collect(seq)
		n := 0
		for a := range seq {
			i := 0
			for b := range seq {
				if a != whole[n] || b != whole[i] {
					t.Fatalf("%s: %s and %s at %d and %d", name, show(a), show(b), n, i)
				}
				i++
			}
			if i != len(whole) {
				t.Fatalf("%s: %d rows within", name, i)
			}
			n++
		}
		if n != len(whole) {
			t.Fatalf("%s: %d rows", name, n)
		}
	}
}

// What is told is as it was when it was asked for, however the table is changed ahead of it, between, and in its midst.
func TestToldAsItWas(t *testing.T) {
	for name, tell := range tellers {
		r := rand.New(rand.NewSource(31))
		for range 100 {
			x, m := table.New(), model{}
			for range 30 {
				act(t, r, x, m)
			}
			in := randomRange(r)
			want := m.in(in)
			if name == "Down" {
				want = backward(want)
			}
			seq := tell(x, in)
			act(t, r, x, m)
			var got []api.Row
			for row := range seq {
				got = append(got, row)
				act(t, r, x, m)
			}
			if !slices.Equal(got, want) {
				t.Fatalf("%s(%q): %s, want %s", name, in, show(got...), show(want...))
			}
			x.Replace(api.Range{})
			m.replace(api.Range{}, nil)
			if got = collect(seq); !slices.Equal(got, want) {
				t.Fatalf("%s(%q) again: %s, want %s", name, in, show(got...), show(want...))
			}
			holds(t, x, m)
		}
	}
}

func TestReplaceErrors(t *testing.T) {
	key := func(k string) api.Row { return api.Row{Key: k, Value: "new", Version: 9} }
	none := api.Row{Key: "bb", Value: "new"}
	for _, c := range []struct {
		in   api.Range
		rows []api.Row
		want api.Errno
	}{
		{api.Range{From: "b", To: "d"}, []api.Row{key("b")}, 0},
		{api.Range{From: "b", To: "d"}, []api.Row{key("c\xff\xff")}, 0},
		{api.Range{From: "b", To: "d"}, []api.Row{key("d")}, 75},
		{api.Range{From: "b", To: "d"}, []api.Row{key("a\xff\xff")}, 75},
		{api.Range{From: "b", To: "d"}, []api.Row{key("b"), key("c"), key("e")}, 75},
		{api.Range{From: "b", To: "d"}, []api.Row{key("a"), key("b")}, 75},
		{api.Range{From: "b", To: "d"}, []api.Row{key("c"), key("b")}, 73},
		{api.Range{From: "b", To: "d"}, []api.Row{key("c"), key("c")}, 73},
		{api.Range{From: "b", To: "d"}, []api.Row{key("c"), key("a")}, 75},           // the range ahead of the order
		{api.Range{From: "b", To: "d"}, []api.Row{key("c"), key("")}, 70},            // Check ahead of the range
		{api.Range{From: "b", To: "d"}, []api.Row{key("c"), none}, 72},               // Check ahead of the order
		{api.Range{From: "b", To: "d"}, []api.Row{key("c"), key("b"), key("")}, 73},  // the first row that is wrong
		{api.Range{From: "b", To: "d"}, []api.Row{key("c"), key("d"), none}, 75},     // likewise
		{api.Range{From: "b", To: "d"}, []api.Row{none, key("a"), key("")}, 72},      // likewise
		{api.Range{From: "b", To: "d"}, []api.Row{key("b"), key("b\x00"), none}, 72}, // the last one
		{api.Range{From: "b", To: "b"}, []api.Row{key("b")}, 75},
		{api.Range{From: "b", To: "a"}, []api.Row{key("b")}, 75},
		{api.Range{From: "b", To: "a"}, []api.Row{key("a")}, 75},
		{api.Range{From: "b", To: "a"}, nil, 0},
		{api.Range{From: "b"}, []api.Row{key("\xff")}, 0},
		{api.Range{From: "b"}, []api.Row{key("a")}, 75},
		{api.Range{To: "b"}, []api.Row{key("\x00")}, 0},
		{api.Range{To: "b"}, []api.Row{key("b")}, 75},
		{api.Range{}, []api.Row{key("\x00"), key("\xff")}, 0},
		{api.Range{}, nil, 0},
	} {
		m := model{}
		for _, k := range []string{"a", "b", "c", "d", "e"} {
			m.put(api.Row{Key: k, Value: "old", Version: 1})
		}
		x := of(t, m.rows()...)
		if e := x.Replace(c.in, c.rows...); e != c.want || e != m.replace(c.in, c.rows) {
			t.Fatalf("Replace(%q, %s): %d, want %d", c.in, show(c.rows...), e, c.want)
		}
		holds(t, x, m) // what is refused changes nothing
	}
}

// Each range over the edges, with no rows and with some.
func TestReplaceRanges(t *testing.T) {
	r := rand.New(rand.NewSource(32))
	for _, in := range ranges() {
		for n := range 3 {
			x, m := everyEdge(t)
			rows := randomRows(r, in)
			if n == 0 {
				rows = nil
			}
			if e, want := x.Replace(in, rows...), m.replace(in, rows); e != want {
				t.Fatalf("Replace(%q, %s): %d, want %d", in, show(rows...), e, want)
			}
			has(t, x, m.rows()...)
			if x.Len() != len(m) || x.Size() != m.size() {
				t.Fatalf("Replace(%q, %s): %d rows, %d bytes", in, show(rows...), x.Len(), x.Size())
			}
		}
	}
}

// Few rows instead of many, many instead of few, at each place.
func TestReplaceMany(t *testing.T) {
	for _, n := range []int{0, 1, 2, 10, 100, 1000} {
		for _, k := range []int{0, 1, 2, 10, 100, 1000} {
			for _, at := range []int{0, n / 3, n - 1, n} {
				if at < 0 {
					continue
				}
				rows := many(n)
				x := of(t, rows...)
				in := api.Range{From: number(at), To: number(at + n/4)}
				var more []api.Row
				for _, r := range many(k) {
					more = append(more, api.Row{Key: number(at) + r.Key, Version: 1})
				}
				if n/4 == 0 {
					in.To = number(at + 1)
				}
				if e := x.Replace(in, more...); e != 0 {
					t.Fatalf("Replace: %d", e)
				}
				behind := min(n, max(at+1, at+n/4))
				want := slices.Concat(rows[:at], more, rows[behind:])
				has(t, x, want...)
				for i, r := range want {
					if got, e := x.At(i); e != 0 || got != r || x.Rank(r.Key) != i {
						t.Fatalf("At(%d): %s, %d; want %s", i, show(got), e, show(r))
					}
				}
				if !x.Equal(of(t, want...)) {
					t.Fatalf("not what From makes")
				}
			}
		}
	}
}
