package table_test

import (
	"fmt"
	"math/rand"
	"slices"
	"strings"
	"testing"

	"hawser/api"
	"hawser/table"
)

var (
	rowA = api.Row{Key: "a", Value: "y", Version: 1}
	rowB = api.Row{Key: "b", Value: "z", Version: 3}
)

// of: a table with these rows, which must be taken.
func of(t *testing.T, rows ...api.Row) *table.Table {
	t.Helper()
	x, e := table.From(rows...)
	if e != api.OK || x == nil {
		t.Fatalf("From of %d rows: %v, %d", len(rows), x != nil, e)
	}
	return x
}

// has: a table has just these rows.
func has(t *testing.T, x *table.Table, rows ...api.Row) {
	t.Helper()
	if got := collect(x.Rows(api.Range{})); !slices.Equal(got, rows) {
		t.Fatalf("rows %s, want %s", show(got...), show(rows...))
	}
}

func TestNumbers(t *testing.T) {
	for _, c := range []struct{ got, want api.Errno }{
		{api.OK, 0}, {api.ErrMade, 2}, {api.ErrFull, 3},
		{api.ErrTableKey, 70}, {api.ErrTableValue, 71}, {api.ErrTableVersion, 72},
		{api.ErrTableOrder, 73}, {api.ErrTablePlace, 74}, {api.ErrTableRange, 75},
	} {
		if c.got != c.want {
			t.Errorf("%d, want %d", c.got, c.want)
		}
	}
	for _, c := range []struct{ got, want int }{
		{api.MaxKey, 1024}, {api.MaxValue, 65536}, {api.MaxRows, 1048576}, {api.MaxSeq, 1152921504606846976},
	} {
		if c.got != c.want {
			t.Errorf("%d, want %d", c.got, c.want)
		}
	}
}

// sizes: rows with parts at their edges, and what Check answers of each.
func sizes() map[api.Row]api.Errno {
	l := map[api.Row]api.Errno{}
	for _, k := range []int{0, 1, 2, 1023, 1024, 1025, 5000} {
		for _, v := range []int{0, 1, 65535, 65536, 65537, 100000} {
			for _, n := range []int{-1 << 63, -1, 0, 1, 2, 1<<60 - 1, 1 << 60, 1<<60 + 1, 1<<63 - 1} {
				want := api.OK
				switch {
				case k == 0 || k > 1024:
					want = 70
				case v > 65536:
					want = 71
				case n < 1 || n > 1<<60:
					want = 72
				}
				l[api.Row{Key: strings.Repeat("k", k), Value: strings.Repeat("v", v), Version: n}] = want
			}
		}
	}
	return l
}

func TestCheck(t *testing.T) {
	for r, want := range sizes() {
		if e := table.Check(r); e != want {
			t.Errorf("Check of %d, %d bytes, version %d: %d, want %d", len(r.Key), len(r.Value), r.Version, e, want)
		}
	}
	for _, key := range []string{"\x00", "\xff", "\x00\x00", "\xc3\x28", "\n"} {
		if e := table.Check(api.Row{Key: key, Value: "\x00\xff", Version: 1}); e != 0 {
			t.Errorf("Check of %q: %d", key, e)
		}
	}
}

// What Check refuses each call refuses with the same number, and nothing is changed; what it takes is taken.
func TestCheckEverywhere(t *testing.T) {
	for r, want := range sizes() {
		name := fmt.Sprintf("%d, %d bytes, version %d", len(r.Key), len(r.Value), r.Version)
		x := of(t, rowA, rowB)
		m := model{"a": rowA, "b": rowB}
		if e := x.Put(r); e != want || e != m.put(r) {
			t.Fatalf("Put of %s: %d", name, e)
		}
		has(t, x, m.rows()...)
		x = of(t, rowA, rowB)
		m = model{"a": rowA, "b": rowB}
		if e := x.Replace(api.Range{}, r); e != want || e != m.replace(api.Range{}, []api.Row{r}) {
			t.Fatalf("Replace by %s: %d", name, e)
		}
		has(t, x, m.rows()...)
		x, e := table.From(r)
		if e != want || (x == nil) != (e != 0) {
			t.Fatalf("From of %s: %v, %d", name, x != nil, e)
		}
		if e == 0 {
			has(t, x, r)
		}
	}
}

func TestNew(t *testing.T) {
	x := table.New()
	holds(t, x, model{})
	for _, r := range ranges() {
		told(t, x, model{}, r)
	}
	y := table.New()
	x.Put(rowA)
	holds(t, y, model{})
	holds(t, of(t), model{})
}

func TestFrom(t *testing.T) {
	key := func(k string) api.Row { return api.Row{Key: k, Version: 1} }
	long := api.Row{Key: "l", Value: strings.Repeat("v", 65537), Version: 1}
	for _, c := range []struct {
		rows []api.Row
		want api.Errno
	}{
		{nil, 0},
		{[]api.Row{}, 0},
		{[]api.Row{key("a")}, 0},
		{[]api.Row{key("a"), key("b")}, 0},
		{[]api.Row{key("\x00"), key("a"), key("a\x00"), key("aa"), key("b"), key("\xff")}, 0},
		{[]api.Row{key("b"), key("a")}, 73},
		{[]api.Row{key("a"), key("a")}, 73},
		{[]api.Row{key("a"), {Key: "a", Value: "w", Version: 2}}, 73},
		{[]api.Row{key("aa"), key("a")}, 73},
		{[]api.Row{key("a\x00"), key("a")}, 73},
		{[]api.Row{key("\xff"), key("a")}, 73},
		{[]api.Row{key("a"), key("c"), key("b")}, 73},
		{[]api.Row{key("a"), key("c"), key("b"), key("d")}, 73},
		{[]api.Row{key("b"), key("c"), key("a")}, 73},
		{[]api.Row{key("")}, 70},
		{[]api.Row{key("a"), key("")}, 70},              // a row is checked ahead of its order
		{[]api.Row{key("b"), {Key: "a"}}, 72},           // likewise
		{[]api.Row{key("b"), key("a"), key("")}, 73},    // the first row that is wrong
		{[]api.Row{key("b"), key("a"), long}, 73},       // likewise
		{[]api.Row{long, key("a"), key("")}, 71},        // likewise
		{[]api.Row{key("a"), key("b"), {Key: "c"}}, 72}, // the last one
	} {
		x, e := table.From(c.rows...)
		if e != c.want || (x == nil) != (c.want != 0) {
			t.Fatalf("From(%s): %v, %d; want %d", show(c.rows...), x != nil, e, c.want)
		}
		if e == 0 {
			m := model{}
			for _, r := range c.rows {
				m[r.Key] = r
			}
			holds(t, x, m)
		}
	}
}

func TestFromOfEachLength(t *testing.T) {
	m := model{}
	for n := range 130 {
		rows := many(n)
		for _, r := range rows {
			m[r.Key] = r
		}
		holds(t, of(t, rows...), m)
	}
}

func TestPut(t *testing.T) {
	rising := many(200)
	falling := backward(rising)
	mixed := slices.Clone(rising)
	rand.New(rand.NewSource(7)).Shuffle(len(mixed), func(i, j int) { mixed[i], mixed[j] = mixed[j], mixed[i] })
	for name, l := range map[string][]api.Row{"rising": rising, "falling": falling, "mixed": mixed} {
		x, m := table.New(), model{}
		for i, r := range l {
			if e := x.Put(r); e != m.put(r) {
				t.Fatalf("%s: Put: %d", name, e)
			}
			if i < 40 || i%20 == 0 {
				holds(t, x, m)
			}
		}
		holds(t, x, m)
		if y := of(t, rising...); !x.Equal(y) || !y.Equal(x) {
			t.Fatalf("%s: not what From makes", name)
		}
	}
}

func TestPutTwice(t *testing.T) {
	x := of(t, rowA, rowB)
	for _, r := range []api.Row{
		rowB, rowB, {Key: "b", Value: "zz", Version: 3}, {Key: "b", Value: "zz", Version: 2}, {Key: "b", Version: 1},
		{Key: "b", Value: strings.Repeat("b", 65536), Version: api.MaxSeq}, rowB,
	} {
		if e := x.Put(r); e != 0 {
			t.Fatalf("Put: %d", e)
		}
		holds(t, x, model{"a": rowA, "b": r})
	}
}

func TestDelete(t *testing.T) {
	x := of(t, many(70)...)
	m := model{}
	for _, r := range many(70) {
		m[r.Key] = r
	}
	for _, k := range append(slices.Clone(edges), number(70), number(0)+"\x00", "k") {
		if x.Delete(k) {
			t.Fatalf("Delete(%q) of none: true", k)
		}
		holds(t, x, m)
	}
	r := rand.New(rand.NewSource(8))
	for _, i := range r.Perm(70) {
		if !x.Delete(number(i)) {
			t.Fatalf("Delete(%d): false", i)
		}
		delete(m, number(i))
		holds(t, x, m)
		if x.Delete(number(i)) {
			t.Fatalf("Delete(%d) again: true", i)
		}
	}
	if x.Len() != 0 || x.Size() != 0 || !x.Equal(table.New()) {
		t.Fatalf("%d rows are left", x.Len())
	}
	if e := x.Put(rowA); e != 0 {
		t.Fatalf("Put behind the last Delete: %d", e)
	}
	has(t, x, rowA)
}

func TestDeleteRisingAndFalling(t *testing.T) {
	for _, from := range []int{0, 99} {
		x, m := of(t, many(100)...), model{}
		for _, r := range many(100) {
			m[r.Key] = r
		}
		for i := range 100 {
			k := number(i)
			if from > 0 {
				k = number(from - i)
			}
			delete(m, k)
			if !x.Delete(k) {
				t.Fatalf("Delete(%q): false", k)
			}
			holds(t, x, m)
		}
	}
}

func TestAt(t *testing.T) {
	x := of(t, rowA, rowB)
	for _, i := range []int{-1 << 63, -2, -1, 2, 3, 1 << 20, 1<<63 - 1} {
		if r, e := x.At(i); e != 74 || r != (api.Row{}) {
			t.Errorf("At(%d): %s, %d", i, show(r), e)
		}
	}
	for i, want := range []api.Row{rowA, rowB} {
		if r, e := x.At(i); e != 0 || r != want {
			t.Errorf("At(%d): %s, %d", i, show(r), e)
		}
	}
	if r, e := table.New().At(0); e != 74 || r != (api.Row{}) {
		t.Errorf("At(0) of no rows: %s, %d", show(r), e)
	}
}

func TestSize(t *testing.T) {
	x := table.New()
	x.Put(api.Row{Key: strings.Repeat("k", 1024), Value: strings.Repeat("v", 65536), Version: 1})
	x.Put(api.Row{Key: "k", Version: api.MaxSeq})
	if x.Size() != 1024+65536+1 {
		t.Errorf("Size: %d", x.Size())
	}
	x.Put(api.Row{Key: strings.Repeat("k", 1024), Value: "v", Version: 1})
	if x.Size() != 1024+1+1 {
		t.Errorf("Size behind a shorter value: %d", x.Size())
	}
	x.Delete("k")
	if x.Size() != 1025 {
		t.Errorf("Size behind Delete: %d", x.Size())
	}
}

func TestRank(t *testing.T) {
	x := of(t, rowA, rowB)
	for key, want := range map[string]int{
		"": 0, "\x00": 0, "A": 0, "a": 0, "a\x00": 1, "aa": 1, "b": 1, "b\x00": 2, "c": 2, "\xff": 2, strings.Repeat("z", 2000): 2,
	} {
		if n := x.Rank(key); n != want {
			t.Errorf("Rank(%q): %d, want %d", key, n, want)
		}
	}
}

// P7.8: At(Rank(key)) of a Key that is there is its row.
func TestAtRank(t *testing.T) {
	r := rand.New(rand.NewSource(9))
	x, m := table.New(), model{}
	for range 400 {
		act(t, r, x, m)
		for i, want := range m.rows() {
			if got, e := x.At(x.Rank(want.Key)); e != 0 || got != want || x.Rank(want.Key) != i {
				t.Fatalf("At(Rank(%q)): %s, %d", want.Key, show(got), e)
			}
		}
	}
}

func TestExamples(t *testing.T) {
	x := table.New()
	for _, r := range []api.Row{{Key: "b", Value: "x", Version: 2}, rowA, rowB} {
		if e := x.Put(r); e != 0 {
			t.Fatalf("Put: %d", e)
		}
	}
	if r, e := x.At(0); x.Len() != 2 || x.Size() != 4 || r != rowA || e != 0 || x.Rank("b") != 1 || x.Rank("aa") != 1 {
		t.Errorf("example 1: %d rows, %d bytes, %s", x.Len(), x.Size(), show(r))
	}
	if _, e := x.At(2); e != 74 {
		t.Errorf("example 1: At(2): %d", e)
	}
	if got := collect(x.Rows(api.Range{From: "a", To: "b"})); !slices.Equal(got, []api.Row{rowA}) {
		t.Errorf("example 2: %s", show(got...))
	}
	if got := collect(x.Down(api.Range{})); !slices.Equal(got, []api.Row{rowB, rowA}) {
		t.Errorf("example 2: %s", show(got...))
	}
	if got := collect(x.Down(api.Range{From: "b", To: "a"})); len(got) != 0 {
		t.Errorf("example 2: %s", show(got...))
	}
	ab := api.Row{Key: "ab", Value: "q", Version: 4}
	if e := x.Replace(api.Range{From: "a", To: "b"}, ab); e != 0 {
		t.Errorf("example 3: %d", e)
	}
	has(t, x, ab, rowB)
	if e := x.Replace(api.Range{From: "a", To: "b"}, api.Row{Key: "b", Value: "q", Version: 4}); e != 75 {
		t.Errorf("example 3: %d", e)
	}
	s := x.Snapshot()
	x.Delete("b")
	if r, ok := s.Get("b"); !ok || r != rowB || !slices.Equal(x.Changes(s), []string{"b"}) {
		t.Errorf("example 4: %s, %q", show(r), x.Changes(s))
	}
	if e := table.Check(api.Row{Value: "x"}); e != 70 {
		t.Errorf("example 5: %d", e)
	}
	if e := table.Check(api.Row{Key: "k", Value: "x"}); e != 72 {
		t.Errorf("example 5: %d", e)
	}
	if y, e := table.From(rowB, rowA); e != 73 || y != nil {
		t.Errorf("example 5: %d", e)
	}
}
