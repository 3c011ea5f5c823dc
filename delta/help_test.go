package delta_test

import (
	"bytes"
	"fmt"
	"maps"
	"math/rand"
	"slices"
	"strings"
	"testing"

	"hawser/api"
	"hawser/delta"
	"hawser/table"
)

// The chapter's words written out plainly: a store is a map of user rows, and of each client its last request.

type request struct {
	number int
	result api.Result
	seq    int
}

type model struct {
	seq  int
	rows map[string]api.Row
	last map[int]request
}

func fresh() *model { return &model{rows: map[string]api.Row{}, last: map[int]request{}} }

func (m *model) copy() *model {
	return &model{seq: m.seq, rows: maps.Clone(m.rows), last: maps.Clone(m.last)}
}

// apply does an update that may be, and is the next one.
func (m *model) apply(u api.Update) api.Result {
	m.seq++
	last := m.last[u.Client]
	if u.Number < last.number {
		return api.Result{Code: 5}
	}
	if u.Number == last.number {
		return last.result
	}
	result := m.do(u)
	m.last[u.Client] = request{u.Number, result, m.seq}
	return result
}

func (m *model) do(u api.Update) api.Result {
	old, there := m.rows[u.Op.Key]
	if u.Op.Kind == 2 && !there {
		return api.Result{Code: 2}
	}
	if u.Op.Kind == 3 && old.Version != u.Op.Version {
		return api.Result{Code: 3, Version: old.Version}
	}
	if u.Op.Kind == 2 {
		delete(m.rows, u.Op.Key)
	} else {
		m.rows[u.Op.Key] = api.Row{Key: u.Op.Key, Value: u.Op.Value, Version: m.seq}
	}
	return api.Result{Code: 1, Version: m.seq}
}

func (m *model) state() api.State {
	var l []api.Row
	for _, r := range m.rows {
		l = append(l, r)
	}
	for c, x := range m.last {
		l = append(l, sessionRow(c, x))
	}
	slices.SortFunc(l, func(a, b api.Row) int { return bytes.Compare([]byte(a.Key), []byte(b.Key)) })
	return api.State{Seq: m.seq, Rows: l}
}

func sessionRow(client int, x request) api.Row {
	value := number(x.number) + number(int(x.result.Code)) + number(x.result.Version)
	return api.Row{Key: "\x00s" + string([]byte{byte(client)}), Value: value, Version: x.seq}
}

// number is a number as chapter 1 writes it.
func number(v int) string {
	s := ""
	for ; v >= 128; v /= 128 {
		s += string([]byte{byte(v%128) + 128})
	}
	return s + string([]byte{byte(v)})
}

// text is a text behind how many bytes it has.
func text(s string) string { return number(len(s)) + s }

// parts are what an update's bytes are made of.
func parts(u api.Update) []string {
	l := []string{number(u.Seq), number(u.Client), number(u.Number), number(int(u.Op.Kind)), text(u.Op.Key)}
	if u.Op.Kind != 2 {
		l = append(l, text(u.Op.Value))
	}
	if u.Op.Kind == 3 {
		l = append(l, number(u.Op.Version))
	}
	return l
}

func form(u api.Update) string { return strings.Join(parts(u), "") }

func long(n int) string { return strings.Repeat("k", n) }

func update(seq, client, number int, kind api.OpKind, key, value string, version int) api.Update {
	return api.Update{Seq: seq, Client: client, Number: number, Op: api.Op{Kind: kind, Key: key, Value: value, Version: version}}
}

func put(n int, key, value string) api.Update { return update(n, 1, n, 1, key, value, 0) }

// brief tells an update, its texts only as far as their beginnings.
func brief(u api.Update) string {
	return fmt.Sprintf("{%d, %d, %d, %d, %.30q of %d, %.30q of %d, %d}", u.Seq, u.Client, u.Number, u.Op.Kind, u.Op.Key, len(u.Op.Key), u.Op.Value, len(u.Op.Value), u.Op.Version)
}

func sameState(a, b api.State) bool { return a.Seq == b.Seq && slices.Equal(a.Rows, b.Rows) }

func show(s api.State) string {
	l := make([]string, 0, len(s.Rows))
	for _, r := range s.Rows {
		l = append(l, fmt.Sprintf("%.40q: %.40q, %d", r.Key, r.Value, r.Version))
	}
	return fmt.Sprintf("%d {%s}", s.Seq, strings.Join(l, "; "))
}

// rowsOf are a table's rows, by rising keys.
func rowsOf(x *table.Table) []api.Row { return slices.Collect(x.Rows(api.Range{})) }

// in asks a store all that can be asked, and holds it against a state.
func in(t *testing.T, s *delta.Store, want api.State) {
	t.Helper()
	if got := s.State(); !sameState(got, want) {
		t.Fatalf("State: %s, want %s", show(got), show(want))
	}
	if s.Seq() != want.Seq {
		t.Fatalf("Seq: %d, want %d", s.Seq(), want.Seq)
	}
	if got := rowsOf(s.Table()); !slices.Equal(got, want.Rows) {
		t.Fatalf("Table: %s, want %s", show(api.State{Rows: got}), show(want))
	}
	if got := s.Snapshot().State(); !sameState(got, want) {
		t.Fatalf("Snapshot: %s, want %s", show(got), show(want))
	}
	for _, r := range want.Rows {
		if got, ok := s.Get(r.Key); !ok || got != r {
			t.Fatalf("Get(%.40q): %v, %v, want %v", r.Key, got, ok, r)
		}
		for _, none := range []string{r.Key + "\x00", r.Key[:len(r.Key)-1]} {
			has := slices.ContainsFunc(want.Rows, func(x api.Row) bool { return x.Key == none })
			if got, ok := s.Get(none); ok != has || !ok && got != (api.Row{}) {
				t.Fatalf("Get(%.40q): %v, %v", none, got, ok)
			}
		}
	}
}

// holds is in, and what is told of the clients.
func holds(t *testing.T, s *delta.Store, m *model) {
	t.Helper()
	in(t, s, m.state())
	for c := -1; c <= 18; c++ {
		x := m.last[c]
		if n, r, q := s.Last(c); n != x.number || r != x.result || q != x.seq {
			t.Fatalf("Last(%d): %d, %v, %d, want %v", c, n, r, q, x)
		}
	}
}

// does applies updates, which must all go as the model says.
func does(t *testing.T, s *delta.Store, m *model, l ...api.Update) {
	t.Helper()
	for _, u := range l {
		want := m.apply(u)
		if got, e := s.Apply(u); e != 0 || got != want {
			t.Fatalf("Apply(%s): %v, %d, want %v", brief(u), got, e, want)
		}
	}
}

// behind is a store behind updates, and its model.
func behind(t *testing.T, l ...api.Update) (*delta.Store, *model) {
	t.Helper()
	s, m := delta.New(), fresh()
	does(t, s, m, l...)
	holds(t, s, m)
	return s, m
}

func load(t *testing.T, s api.State) *delta.Store {
	t.Helper()
	x, e := delta.Load(s)
	if e != 0 || x == nil {
		t.Fatalf("Load: %d", e)
	}
	return x
}

// next makes an update that may be, the next one of a store: few keys and numbers, so that they meet.
func next(r *rand.Rand, m *model) api.Update {
	u := update(m.seq+1, 1+r.Intn(4), 1, api.OpKind(1+r.Intn(3)), string([]byte{byte('a' + r.Intn(5))}), "", 0)
	if r.Intn(8) == 0 {
		u.Client = 16
	}
	u.Number = max(1, m.last[u.Client].number+r.Intn(6)-2)
	if u.Op.Kind != 2 {
		u.Op.Value = long(r.Intn(4))
	}
	if u.Op.Kind == 3 && r.Intn(4) > 0 {
		u.Op.Version = m.rows[u.Op.Key].Version
	} else if u.Op.Kind == 3 {
		u.Op.Version = r.Intn(m.seq + 2)
	}
	return u
}

// anything makes an update that may be, of any numbers and lengths.
func anything(r *rand.Rand) api.Update {
	some := func() int { return 1 + r.Intn(1<<r.Intn(61)) }
	u := update(some(), 1+r.Intn(16), some(), api.OpKind(1+r.Intn(3)), string([]byte{byte(1 + r.Intn(255))}), "", 0)
	rest := make([]byte, r.Intn(1<<r.Intn(9)))
	r.Read(rest)
	u.Op.Key += string(rest)
	if u.Op.Kind != 2 {
		value := make([]byte, r.Intn(1<<r.Intn(11)))
		r.Read(value)
		u.Op.Value = string(value)
	}
	if u.Op.Kind == 3 {
		u.Op.Version = some() - 1
	}
	return u
}
