package vers_test

import (
	"fmt"
	"math"
	"math/rand"
	"slices"
	"strings"
	"testing"

	"hawser/api"
	"hawser/delta"
	"hawser/vers"
)

// The errors by their numbers, as the chapter has them.
const (
	errMade  = api.Errno(2)
	errKind  = api.Errno(80)
	errKey   = api.Errno(81)
	errValue = api.Errno(82)
	errWho   = api.Errno(83)
	errCount = api.Errno(84)
	errNext  = api.Errno(85)
	errSeq   = api.Errno(140)
	errBack  = api.Errno(141)
)

const top = 1 << 60

// The chapter's words written out plainly: the first base, all updates, and how far they are committed. A store behind a number is made anew whenever one is asked for.
type model struct {
	first     api.State
	all       []api.Update
	committed int
}

func (m *model) applied() int { return m.first.Seq + len(m.all) }

// behind is the store behind a number.
func (m *model) behind(seq int) *delta.Store {
	s, e := delta.Load(m.first)
	if e != 0 {
		panic(e)
	}
	for _, u := range m.all[:seq-m.first.Seq] {
		if _, e := s.Apply(u); e != 0 {
			panic(e)
		}
	}
	return s
}

// apply is what the store behind applied answers.
func (m *model) apply(u api.Update) (api.Result, api.Errno) {
	result, e := m.behind(m.applied()).Apply(u)
	if e == 0 {
		m.all = append(slices.Clip(m.all), u)
	}
	return result, e
}

func (m *model) commit(seq int) api.Errno {
	if seq > m.applied() {
		return errSeq
	}
	if seq < m.committed {
		return errBack
	}
	m.committed = seq
	return 0
}

// from is the updates with greater numbers.
func (m *model) from(seq int) []api.Update {
	var l []api.Update
	for _, u := range m.all {
		if u.Seq > seq {
			l = append(l, u)
		}
	}
	return l
}

func (m *model) clean(key string) bool {
	for _, u := range m.from(m.committed) {
		if u.Op.Key == key {
			return false
		}
	}
	return true
}

func (m *model) copy() *model {
	return &model{first: m.first, all: slices.Clone(m.all), committed: m.committed}
}

func long(n int) string { return strings.Repeat("k", n) }

func update(seq, client, number int, kind api.OpKind, key, value string, version int) api.Update {
	return api.Update{Seq: seq, Client: client, Number: number, Op: api.Op{Kind: kind, Key: key, Value: value, Version: version}}
}

func put(n int, key, value string) api.Update { return update(n, 1, n, 1, key, value, 0) }

// keys are those that the tests ask for: users' keys that are named and that are not, the store's own, and texts that are none.
func keys() []string {
	return []string{"a", "b", "c", "d", "e", "f", "aa", "", "\x00", "\x00s\x01", "\x00s\x02", "\x00s\x03", "\x00s\x10", "\x00s\x11", "\x00s", "\xff", long(1024), long(1025), long(70000)}
}

// brief tells an update, its texts only as far as their beginnings.
func brief(u api.Update) string {
	return fmt.Sprintf("{%d, %d, %d, %d, %.30q of %d, %.30q of %d, %d}", u.Seq, u.Client, u.Number, u.Op.Kind, u.Op.Key, len(u.Op.Key), u.Op.Value, len(u.Op.Value), u.Op.Version)
}

func show(s api.State) string {
	l := make([]string, 0, len(s.Rows))
	for _, r := range s.Rows {
		l = append(l, fmt.Sprintf("%.40q: %.40q, %d", r.Key, r.Value, r.Version))
	}
	return fmt.Sprintf("%d {%s}", s.Seq, strings.Join(l, "; "))
}

func sameState(a, b api.State) bool { return a.Seq == b.Seq && slices.Equal(a.Rows, b.Rows) }

// in holds a store's state against what is wanted.
func in(t *testing.T, what string, s *delta.Store, want api.State) {
	t.Helper()
	if s == nil {
		t.Fatalf("%s: nil", what)
	}
	if got := s.State(); !sameState(got, want) || s.Seq() != want.Seq {
		t.Fatalf("%s: %s, want %s", what, show(got), show(want))
	}
}

// holds asks a book all that can be asked, and holds it against the model.
func holds(t *testing.T, b *vers.Book, m *model) {
	t.Helper()
	if b.Applied() != m.applied() || b.Committed() != m.committed {
		t.Fatalf("Applied, Committed: %d, %d, want %d, %d", b.Applied(), b.Committed(), m.applied(), m.committed)
	}
	all := m.behind(m.applied())
	in(t, "Store", b.Store(), all.State())
	in(t, "Base", b.Base(), m.behind(m.committed).State())
	for _, key := range keys() {
		if got, want := b.Clean(key), m.clean(key); got != want {
			t.Fatalf("Clean(%.20q): %v", key, got)
		}
		row, ok := all.Get(key)
		if got, there := b.Get(key); got != row || there != ok {
			t.Fatalf("Get(%.20q): %v, %v, want %v, %v", key, got, there, row, ok)
		}
	}
	for c := -1; c <= 18; c++ {
		number, result, seq := all.Last(c)
		if n, r, q := b.Last(c); n != number || r != result || q != seq {
			t.Fatalf("Last(%d): %d, %v, %d, want %d, %v, %d", c, n, r, q, number, result, seq)
		}
	}
	for seq := m.committed; seq <= m.applied(); seq++ {
		behind(t, b, m, seq)
	}
	for _, seq := range []int{math.MinInt, -1, m.committed - 2, m.committed - 1, m.applied() + 1, m.applied() + 2, top, math.MaxInt} {
		if seq < m.committed || seq > m.applied() {
			notKept(t, b, seq)
		}
	}
}

// behind holds what is told of a number that is kept.
func behind(t *testing.T, b *vers.Book, m *model, seq int) {
	t.Helper()
	want := m.from(seq)
	l, e := b.From(seq)
	if e != 0 || !slices.Equal(l, want) {
		t.Fatalf("From(%d): %d updates, %d, want %d", seq, len(l), e, len(want))
	}
	s := m.behind(seq)
	for _, key := range keys() {
		row, ok := s.Get(key)
		if got, there, e := b.At(key, seq); e != 0 || got != row || there != ok {
			t.Fatalf("At(%.20q, %d): %v, %v, %d, want %v, %v", key, seq, got, there, e, row, ok)
		}
	}
}

func notKept(t *testing.T, b *vers.Book, seq int) {
	t.Helper()
	if l, e := b.From(seq); e != errSeq || len(l) != 0 {
		t.Fatalf("From(%d): %d updates, %d", seq, len(l), e)
	}
	for _, key := range keys() {
		if r, there, e := b.At(key, seq); e != errSeq || there || r != (api.Row{}) {
			t.Fatalf("At(%.20q, %d): %v, %v, %d", key, seq, r, there, e)
		}
	}
}

// load is a store in a state.
func load(t *testing.T, s api.State) *delta.Store {
	t.Helper()
	x, e := delta.Load(s)
	if e != 0 || x == nil {
		t.Fatalf("Load: %d", e)
	}
	return x
}

// over is a book over a state, and its model.
func over(t *testing.T, s api.State) (*vers.Book, *model) {
	t.Helper()
	b := vers.New(load(t, s))
	if b == nil {
		t.Fatal("New: nil")
	}
	return b, &model{first: s, committed: s.Seq}
}

// does applies updates, which must all go as the model says.
func does(t *testing.T, b *vers.Book, m *model, l ...api.Update) {
	t.Helper()
	for _, u := range l {
		want, wrong := m.apply(u)
		if got, e := b.Apply(u); e != wrong || got != want {
			t.Fatalf("Apply(%s): %v, %d, want %v, %d", brief(u), got, e, want, wrong)
		}
	}
}

// commits commits, which must go as the model says.
func commits(t *testing.T, b *vers.Book, m *model, l ...int) {
	t.Helper()
	for _, seq := range l {
		want := m.commit(seq)
		if e := b.Commit(seq); e != want {
			t.Fatalf("Commit(%d): %d, want %d", seq, e, want)
		}
	}
}

// next makes an update that may be, the next one of a book: few keys and numbers, so that they meet.
func next(r *rand.Rand, m *model) api.Update {
	s := m.behind(m.applied())
	u := update(s.Seq()+1, 1+r.Intn(3), 1, api.OpKind(1+r.Intn(3)), string([]byte{byte('a' + r.Intn(5))}), "", 0)
	if r.Intn(8) == 0 {
		u.Client = 16
	}
	last, _, _ := s.Last(u.Client)
	u.Number = max(1, last+r.Intn(6)-2)
	if u.Op.Kind != 2 {
		u.Op.Value = long(r.Intn(4))
	}
	row, _ := s.Get(u.Op.Key)
	if u.Op.Kind == 3 && r.Intn(4) > 0 {
		u.Op.Version = row.Version
	} else if u.Op.Kind == 3 {
		u.Op.Version = r.Intn(s.Seq() + 2)
	}
	return u
}

// wrong makes an update that is refused, whatever the book has applied.
func wrong(r *rand.Rand, m *model) api.Update {
	u := next(r, m)
	l := refused(u)
	return l[r.Intn(len(l))].u
}

// refusal is an update that is refused, and by which error.
type refusal struct {
	u    api.Update
	want api.Errno
}

// refused are updates that are refused where a given one is not: each thing that may be wrong.
func refused(u api.Update) []refusal {
	seq := func(n int) api.Update { v := u; v.Seq = n; return v }
	client := func(n int) api.Update { v := u; v.Client = n; return v }
	number := func(n int) api.Update { v := u; v.Number = n; return v }
	op := func(kind api.OpKind, key, value string, version int) api.Update {
		return update(u.Seq, u.Client, u.Number, kind, key, value, version)
	}
	return []refusal{
		{seq(u.Seq - 1), errNext}, {seq(u.Seq + 1), errNext}, {seq(0), errNext}, {seq(-1), errNext}, {seq(math.MinInt), errNext}, {seq(math.MaxInt), errNext}, {seq(top + 1), errNext},
		{client(0), errWho}, {client(17), errWho}, {client(math.MinInt), errWho}, {client(math.MaxInt), errWho},
		{number(0), errCount}, {number(-1), errCount}, {number(top + 1), errCount}, {number(math.MaxInt), errCount},
		{op(0, "a", "x", 0), errKind}, {op(4, "a", "x", 0), errKind}, {op(-1, "", "", -1), errKind},
		{op(1, "", "x", 0), errKey}, {op(1, "\x00s\x01", "x", 0), errKey}, {op(2, long(1025), "", 0), errKey},
		{op(1, "a", long(65537), 0), errValue}, {op(2, "a", "x", 0), errValue},
		{op(1, "a", "x", 1), errCount}, {op(2, "a", "", 1), errCount}, {op(3, "a", "x", -1), errCount}, {op(3, "a", "x", top+1), errCount},
		{api.Update{}, errNext},
	}
}

// play does some call that changes a book, or is refused, and holds it against the model.
func play(t *testing.T, r *rand.Rand, b *vers.Book, m *model) {
	t.Helper()
	switch n := r.Intn(10); {
	case n < 6:
		does(t, b, m, next(r, m))
	case n < 7:
		does(t, b, m, wrong(r, m))
	case n < 9:
		commits(t, b, m, m.committed+r.Intn(m.applied()-m.committed+1))
	default:
		l := []int{math.MinInt, -1, m.committed - 1, m.committed, m.applied(), m.applied() + 1, m.applied() + 2, top, math.MaxInt}
		commits(t, b, m, l[r.Intn(len(l))])
	}
}

// some is a state that may be: users' rows, and clients' sessions.
func some() api.State {
	return api.State{Seq: 7, Rows: []api.Row{
		{Key: "\x00s\x01", Value: "\x02\x01\x03", Version: 3},
		{Key: "\x00s\x10", Value: "\x05\x02\x00", Version: 7},
		{Key: "a", Value: "x", Version: 3},
		{Key: "c", Value: "", Version: 1},
		{Key: "f", Value: "f", Version: 2},
	}}
}
