package table_test

import (
	"bytes"
	"fmt"
	"iter"
	"math/rand"
	"slices"
	"strings"
	"testing"

	"hawser/api"
	"hawser/table"
)

// The chapter's words written out plainly: a table is a map, and all that is told of it is told of its rows, sorted.

type model map[string]api.Row

func compare(a, b string) int { return bytes.Compare([]byte(a), []byte(b)) }

func (m model) copy() model {
	c := model{}
	for k, r := range m {
		c[k] = r
	}
	return c
}

func (m model) rows() []api.Row {
	var l []api.Row
	for _, r := range m {
		l = append(l, r)
	}
	slices.SortFunc(l, func(a, b api.Row) int { return compare(a.Key, b.Key) })
	return l
}

func lies(r api.Range, key string) bool {
	return compare(key, r.From) >= 0 && (len(r.To) == 0 || compare(key, r.To) < 0)
}

func (m model) in(r api.Range) []api.Row {
	var l []api.Row
	for _, x := range m.rows() {
		if lies(r, x.Key) {
			l = append(l, x)
		}
	}
	return l
}

func (m model) rank(key string) int {
	n := 0
	for k := range m {
		if compare(k, key) < 0 {
			n++
		}
	}
	return n
}

func (m model) size() int {
	n := 0
	for _, r := range m {
		n += len(r.Key) + len(r.Value)
	}
	return n
}

func (m model) changes(o model) []string {
	var l []string
	for k, r := range m {
		if x, ok := o[k]; !ok || x != r {
			l = append(l, k)
		}
	}
	for k := range o {
		if _, ok := m[k]; !ok {
			l = append(l, k)
		}
	}
	slices.SortFunc(l, compare)
	return l
}

func may(r api.Row) api.Errno {
	switch {
	case len(r.Key) == 0 || len(r.Key) > 1024:
		return 70
	case len(r.Value) > 65536:
		return 71
	case r.Version <= 0 || r.Version > 1152921504606846976:
		return 72
	}
	return 0
}

func (m model) put(r api.Row) api.Errno {
	if e := may(r); e != 0 {
		return e
	}
	m[r.Key] = r
	return 0
}

func (m model) replace(r api.Range, rows []api.Row) api.Errno {
	for i, x := range rows {
		switch {
		case may(x) != 0:
			return may(x)
		case !lies(r, x.Key):
			return 75
		case i > 0 && compare(rows[i-1].Key, x.Key) >= 0:
			return 73
		}
	}
	for _, x := range m.in(r) {
		delete(m, x.Key)
	}
	for _, x := range rows {
		m[x.Key] = x
	}
	return 0
}

// edges: texts at which something may go wrong, keys or not.
var edges = []string{"", "\x00", "\x00\x00", "a", "a\x00", "aa", "ab", "a\xff", "b", "ba", "c", "\xff", "\xff\x00", "\xff\xff", "\xff\xff\xff", strings.Repeat("\xff", 1025)}

func ranges() []api.Range {
	var l []api.Range
	for _, from := range edges {
		for _, to := range edges {
			l = append(l, api.Range{From: from, To: to})
		}
	}
	return l
}

func collect(s iter.Seq[api.Row]) []api.Row { return slices.Collect(s) }

func backward(l []api.Row) []api.Row {
	l = slices.Clone(l)
	slices.Reverse(l)
	return l
}

// show: rows as text, none of them too long to read.
func show(rows ...api.Row) string {
	s := ""
	for _, r := range rows {
		s += fmt.Sprintf("{%.40q %.40q %d}", r.Key, r.Value, r.Version)
	}
	return "[" + s + "]"
}

// holds: every call that tells something of a table tells it of just these rows.
func holds(t *testing.T, x *table.Table, m model) {
	t.Helper()
	rows := m.rows()
	if x.Len() != len(rows) || x.Size() != m.size() {
		t.Fatalf("%d rows, %d bytes; want %d, %d", x.Len(), x.Size(), len(rows), m.size())
	}
	for i := -2; i < len(rows)+2; i++ {
		r, e := x.At(i)
		if i < 0 || i >= len(rows) {
			if e != 74 || r != (api.Row{}) {
				t.Fatalf("At(%d) of %d rows: %v, %d", i, len(rows), r, e)
			}
		} else if e != 0 || r != rows[i] {
			t.Fatalf("At(%d): %s, %d; want %s", i, show(r), e, show(rows[i]))
		}
	}
	for _, r := range rows {
		asked(t, x, m, r.Key)
		asked(t, x, m, r.Key+"\x00")
		asked(t, x, m, r.Key[:len(r.Key)-1])
	}
	for _, k := range edges {
		asked(t, x, m, k)
	}
	told(t, x, m, api.Range{})
}

func asked(t *testing.T, x *table.Table, m model, key string) {
	t.Helper()
	r, ok := x.Get(key)
	want, there := m[key]
	if ok != there || r != want {
		t.Fatalf("Get(%q): %s, %v; want %s, %v", key, show(r), ok, show(want), there)
	}
	if n := x.Rank(key); n != m.rank(key) {
		t.Fatalf("Rank(%q): %d, want %d", key, n, m.rank(key))
	}
}

func told(t *testing.T, x *table.Table, m model, r api.Range) {
	t.Helper()
	want := m.in(r)
	if got := collect(x.Rows(r)); !slices.Equal(got, want) {
		t.Fatalf("Rows(%q): %s, want %s", r, show(got...), show(want...))
	}
	if got := collect(x.Down(r)); !slices.Equal(got, backward(want)) {
		t.Fatalf("Down(%q): %s, want %s backward", r, show(got...), show(want...))
	}
}

// randomKey: one of few, so that keys meet; some begin with others, some with 0.
func randomKey(r *rand.Rand) string {
	b := make([]byte, 1+r.Intn(3))
	for i := range b {
		b[i] = "\x00ab\xff"[r.Intn(4)]
	}
	return string(b)
}

func randomRow(r *rand.Rand) api.Row {
	return api.Row{Key: randomKey(r), Value: strings.Repeat("v", r.Intn(3)), Version: 1 + r.Intn(3)}
}

func randomRange(r *rand.Rand) api.Range {
	text := func() string {
		if r.Intn(4) == 0 {
			return edges[r.Intn(len(edges))]
		}
		return randomKey(r)
	}
	return api.Range{From: text(), To: text()}
}

// randomRows: some rows, mostly those that a Replace of this range takes.
func randomRows(r *rand.Rand, in api.Range) []api.Row {
	m := model{}
	for range r.Intn(6) {
		if x := randomRow(r); lies(in, x.Key) || r.Intn(20) == 0 {
			m.put(x)
		}
	}
	l := m.rows()
	if len(l) > 0 && r.Intn(8) == 0 {
		l = append(l, l[r.Intn(len(l))]) // a key that is there already
	}
	if len(l) > 0 && r.Intn(8) == 0 {
		l[r.Intn(len(l))] = wrongRow(r)
	}
	return l
}

func wrongRow(r *rand.Rand) api.Row {
	x := randomRow(r)
	switch r.Intn(3) {
	case 0:
		x.Key = ""
	case 1:
		x.Value = strings.Repeat("v", api.MaxValue+1)
	default:
		x.Version = 0
	}
	return x
}

// act does the same to a table and to a model, and holds what is answered.
func act(t *testing.T, r *rand.Rand, x *table.Table, m model) {
	t.Helper()
	switch r.Intn(8) {
	case 0, 1, 2:
		row := randomRow(r)
		if e := x.Put(row); e != m.put(row) {
			t.Fatalf("Put(%s): %d", show(row), e)
		}
	case 3:
		row := wrongRow(r)
		if e := x.Put(row); e == 0 || e != m.put(row) {
			t.Fatalf("Put of a wrong row: %d", e)
		}
	case 4, 5:
		key := randomKey(r)
		_, there := m[key]
		delete(m, key)
		if x.Delete(key) != there {
			t.Fatalf("Delete(%q): %v", key, !there)
		}
	default:
		in := randomRange(r)
		rows := randomRows(r, in)
		if e, want := x.Replace(in, rows...), m.replace(in, rows); e != want {
			t.Fatalf("Replace(%q, %d rows): %d, want %d", in, len(rows), e, want)
		}
	}
}

// P7.8: whatever is done, a table is a map in order.
func TestMapInOrder(t *testing.T) {
	for seed := range int64(60) {
		r := rand.New(rand.NewSource(seed))
		x, m := table.New(), model{}
		for range 120 {
			act(t, r, x, m)
			holds(t, x, m)
			told(t, x, m, randomRange(r))
		}
	}
}

// P7.7, P7.9: a family of snapshots, and snapshots of these, each of which goes its own way.
func TestFamily(t *testing.T) {
	for seed := range int64(60) {
		r := rand.New(rand.NewSource(1000 + seed))
		tables, models := []*table.Table{table.New()}, []model{{}}
		for range 150 {
			i := r.Intn(len(tables))
			act(t, r, tables[i], models[i])
			if r.Intn(5) == 0 {
				s, c := tables[i].Snapshot(), models[i].copy()
				if len(tables) < 5 {
					tables, models = append(tables, s), append(models, c)
				} else {
					j := r.Intn(len(tables))
					tables[j], models[j] = s, c
				}
			}
			k := r.Intn(len(tables))
			alike(t, tables[i], tables[k], models[i], models[k])
			alike(t, tables[k], tables[i], models[k], models[i])
			holds(t, tables[k], models[k])
		}
		for i := range tables {
			holds(t, tables[i], models[i])
		}
	}
}

// alike: Equal and Changes of two tables; P7.10: the one is empty just if the other is so.
func alike(t *testing.T, a, b *table.Table, m, o model) {
	t.Helper()
	want := m.changes(o)
	if got := a.Changes(b); !slices.Equal(got, want) {
		t.Fatalf("Changes of %s and %s: %q, want %q", show(m.rows()...), show(o.rows()...), got, want)
	}
	if got := a.Equal(b); got != (len(want) == 0) {
		t.Fatalf("Equal of %s and %s: %v", show(m.rows()...), show(o.rows()...), got)
	}
}

// many: the rows of n keys that rise.
func many(n int) []api.Row {
	l := make([]api.Row, n)
	for i := range l {
		l[i] = api.Row{Key: number(i), Version: i + 1}
	}
	return l
}

// number: four bytes that rise with i, the first one not 0.
func number(i int) string {
	return string([]byte{'k', byte(i >> 16), byte(i >> 8), byte(i)})
}
