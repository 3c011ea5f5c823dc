package vers_test

import (
	"fmt"
	"math"
	"math/rand"
	"reflect"
	"slices"
	"testing"

	"hawser/api"
	"hawser/delta"
	"hawser/vers"
)

func TestNumbers(t *testing.T) {
	if api.ErrVersSeq != 140 || api.ErrVersBack != 141 || api.ErrMade != 2 || api.OK != 0 {
		t.Error("errors")
	}
}

// A book has the chapter's calls alone, and nothing of it lies open: by the calls of its store it could be changed without being asked.
func TestFace(t *testing.T) {
	var names []string
	for m := range reflect.TypeOf(new(vers.Book)).Methods() {
		names = append(names, m.Name)
	}
	slices.Sort(names)
	if !slices.Equal(names, []string{"Applied", "Apply", "At", "Base", "Clean", "Commit", "Committed", "From", "Get", "Last", "Store"}) {
		t.Errorf("%q", names)
	}
	for f := range reflect.TypeOf(vers.Book{}).Fields() {
		if f.IsExported() {
			t.Errorf("%s lies open", f.Name)
		}
	}
}

// The chapter's examples.
func TestExamples(t *testing.T) {
	b, m := over(t, api.State{})
	holds(t, b, m)
	does(t, b, m, put(1, "a", "x"), put(2, "b", "y"))
	holds(t, b, m)
	a := api.Row{Key: "a", Value: "x", Version: 1}
	if b.Clean("a") || !b.Clean("c") {
		t.Error("Clean")
	}
	if r, there, e := b.At("a", 0); r != (api.Row{}) || there || e != 0 {
		t.Error("At(a, 0):", r, there, e)
	}
	if r, there, e := b.At("a", 1); r != a || !there || e != 0 {
		t.Error("At(a, 1):", r, there, e)
	}
	commits(t, b, m, 1)
	holds(t, b, m)
	if l, e := b.From(1); e != 0 || len(l) != 1 || l[0] != put(2, "b", "y") || !b.Clean("a") || b.Base().Seq() != 1 {
		t.Error("behind Commit(1)")
	}
	for seq, want := range map[int]api.Errno{0: errBack, 3: errSeq, 1: 0} {
		if e := b.Commit(seq); e != want {
			t.Errorf("Commit(%d): %d", seq, e)
		}
		holds(t, b, m)
	}
	if r, e := b.Apply(put(2, "b", "y")); r != (api.Result{}) || e != errNext {
		t.Error("an update twice:", r, e)
	}
	old := update(3, 1, 1, 1, "a", "z", 0)
	if r, e := b.Apply(old); r != (api.Result{Code: 5}) || e != 0 || b.Clean("a") {
		t.Error("an old request:", r, e)
	}
	if r, there := b.Get("a"); r != a || !there {
		t.Error("Get:", r, there)
	}
	m.apply(old)
	holds(t, b, m)
}

// P14.1
func TestNew(t *testing.T) {
	for i, s := range []api.State{{}, some(), {Seq: 5}, {Seq: top}, {Seq: top, Rows: []api.Row{{Key: "a", Value: "x", Version: top}}}} {
		b, m := over(t, s)
		holds(t, b, m)
		if b.Applied() != s.Seq || b.Committed() != s.Seq {
			t.Errorf("%d: %d, %d", i, b.Applied(), b.Committed())
		}
	}
	for name, s := range map[string]*delta.Store{"nil": nil, "zero": {}, "new": new(delta.Store)} {
		if vers.New(s) != nil {
			t.Errorf("New over a %s store", name)
		}
	}
}

// P14.1: what is done with the store later is not seen, nor the other way round; and two books over one store know nothing of each other.
func TestNewIsApart(t *testing.T) {
	s := load(t, some())
	first, m := vers.New(s), &model{first: some(), committed: 7}
	second, o := vers.New(s), m.copy()
	if _, e := s.Apply(update(8, 1, 3, 1, "a", "the store's", 0)); e != 0 {
		t.Fatal(e)
	}
	want := s.State()
	holds(t, first, m)
	does(t, first, m, update(8, 2, 1, 2, "c", "", 0), update(9, 2, 2, 1, "b", "first", 0))
	holds(t, second, o)
	does(t, second, o, update(8, 1, 3, 1, "b", "second", 0))
	commits(t, second, o, 8)
	holds(t, first, m)
	holds(t, second, o)
	in(t, "the store", s, want)
	commits(t, first, m, 9)
	holds(t, first, m)
	holds(t, second, o)
	in(t, "the store", s, want)
}

// P14.2: each way in which an update may go.
func TestApply(t *testing.T) {
	b, m := over(t, some())
	for i, c := range []struct {
		u       api.Update
		code    api.Code
		version int
	}{
		{update(8, 1, 2, 2, "c", "", 0), 1, 3}, // the last one again: as it went then
		{update(9, 1, 1, 2, "c", "", 0), 5, 0},
		{update(10, 1, 9, 2, "c", "", 0), 1, 10},
		{update(11, 1, 10, 2, "c", "", 0), 2, 0},
		{update(12, 2, 1, 3, "c", "new", 1), 3, 0},
		{update(13, 2, 2, 3, "c", "new", 0), 1, 13},
		{update(14, 2, 3, 3, "c", "", 13), 1, 14},
		{update(15, 2, 3, 1, "f", "other", 0), 1, 14},
		{update(16, 16, 6, 3, "a", "", 2), 3, 3},
		{update(17, 16, 6, 1, "b", "", 0), 3, 3},
		{update(18, 3, top, 1, long(1024), long(65536), 0), 1, 18},
		{update(19, 3, top-1, 2, "d", "", 0), 5, 0},
	} {
		got, e := b.Apply(c.u)
		if e != 0 || got != (api.Result{Code: c.code, Version: c.version}) {
			t.Fatalf("%d: Apply(%s): %v, %d", i, brief(c.u), got, e)
		}
		m.apply(c.u)
		holds(t, b, m)
		if b.Clean(c.u.Op.Key) {
			t.Fatalf("%d: %q is clean", i, c.u.Op.Key)
		}
	}
}

// P14.2: what is refused is not open, and changes nothing.
func TestApplyRefuses(t *testing.T) {
	b, m := over(t, some())
	for step := range 4 {
		u := update(m.applied()+1, 2, 1+step, 1, "b", "new", 0)
		for _, c := range refused(u) {
			if got, e := b.Apply(c.u); e != c.want || got != (api.Result{}) {
				t.Fatalf("Apply(%s): %v, %d, want %d", brief(c.u), got, e, c.want)
			}
		}
		holds(t, b, m)
		does(t, b, m, u)
		if step == 2 {
			commits(t, b, m, m.applied())
		}
		holds(t, b, m)
	}
}

// P14.2, R6: numbers at their end.
func TestLastNumber(t *testing.T) {
	b, m := over(t, api.State{Seq: top - 2})
	does(t, b, m, update(top-1, 1, top-1, 1, "a", "x", 0), update(top, 1, top, 1, "a", "y", 0))
	holds(t, b, m)
	for _, seq := range []int{top + 1, top, math.MaxInt, math.MinInt, 1} {
		if r, e := b.Apply(update(seq, 2, 1, 1, "a", "z", 0)); e != errNext || r != (api.Result{}) {
			t.Errorf("Apply behind the last number: %v, %d", r, e)
		}
	}
	commits(t, b, m, math.MaxInt, math.MinInt, top+1, top-3, top-2, top-1)
	holds(t, b, m)
	commits(t, b, m, top, top+1, top-1)
	holds(t, b, m)
}

// P14.3: from each number to each number.
func TestCommit(t *testing.T) {
	const first, open = 7, 6
	for from := first; from <= first+open; from++ {
		for to := first - 2; to <= first+open+2; to++ {
			b, m := over(t, some())
			r := rand.New(rand.NewSource(1))
			for range open {
				does(t, b, m, next(r, m))
			}
			commits(t, b, m, from)
			holds(t, b, m)
			want := api.Errno(0)
			if to > first+open {
				want = errSeq
			} else if to < from {
				want = errBack
			}
			if e := b.Commit(to); e != want {
				t.Fatalf("Commit(%d) behind Commit(%d): %d", to, from, e)
			}
			m.commit(to)
			holds(t, b, m)
			does(t, b, m, next(r, m))
			holds(t, b, m)
		}
	}
}

// P14.3: where nothing is open there is one number alone.
func TestCommitNothing(t *testing.T) {
	for _, s := range []api.State{{}, some()} {
		b, m := over(t, s)
		for _, seq := range []int{s.Seq - 1, s.Seq, s.Seq + 1, math.MinInt, math.MaxInt, s.Seq} {
			commits(t, b, m, seq)
			holds(t, b, m)
		}
	}
}

// P14.5: a key that several open updates name is clean only when the last one of them is committed.
func TestClean(t *testing.T) {
	b, m := over(t, api.State{})
	named := []string{"a", "b", "a", "c", "a", "b", "a", "d", "a"}
	last := map[string]int{}
	for i, key := range named {
		if _, there := last[key]; b.Clean(key) == there {
			t.Fatalf("Clean(%q) ahead of update %d", key, i+1)
		}
		does(t, b, m, put(i+1, key, "x"))
		last[key] = i + 1
	}
	for seq := 1; seq <= len(named); seq++ {
		commits(t, b, m, seq)
		for key, end := range last {
			if b.Clean(key) != (seq >= end) {
				t.Fatalf("Clean(%q) behind Commit(%d)", key, seq)
			}
		}
		holds(t, b, m)
	}
	does(t, b, m, put(len(named)+1, "a", "y"))
	holds(t, b, m)
}

// P14.5: whatever an update did, its key is not clean; and no update names a client's row, though it changes it.
func TestCleanWhateverItDid(t *testing.T) {
	for i, u := range []api.Update{
		update(8, 1, 1, 1, "b", "old", 0),
		update(8, 1, 2, 1, "b", "twice", 0),
		update(8, 1, 3, 2, "b", "", 0),
		update(8, 1, 3, 3, "b", "stale", 5),
		update(8, 1, 3, 3, "b", "done", 0),
		update(8, 1, 3, 1, "b", "done", 0),
	} {
		b, m := over(t, some())
		does(t, b, m, u)
		if b.Clean("b") || !b.Clean("a") || !b.Clean("\x00s\x01") || !b.Clean("") || !b.Clean("bb") || !b.Clean("\x00") || !b.Clean(long(70000)) {
			t.Errorf("%d: Clean", i)
		}
		holds(t, b, m)
		commits(t, b, m, 8)
		if !b.Clean("b") {
			t.Errorf("%d: Clean behind Commit", i)
		}
		holds(t, b, m)
	}
}

// P14.5: a row that comes, changes, goes and comes again, and a client's row, behind each number.
func TestAt(t *testing.T) {
	b, m := over(t, api.State{})
	does(t, b, m, put(1, "a", "x"), put(2, "a", "y"), update(3, 1, 3, 2, "a", "", 0), update(4, 2, 1, 3, "a", "z", 0), update(5, 2, 2, 3, "a", "no", 7), update(6, 1, 1, 1, "a", "old", 0))
	values := []string{"", "x", "y", "", "z", "z", "z"}
	versions := []int{0, 1, 2, 0, 4, 4, 4}
	own := []string{"", "\x01\x01\x01", "\x02\x01\x02", "\x03\x01\x03", "\x03\x01\x03", "\x03\x01\x03", "\x03\x01\x03"}
	for from := range 7 {
		commits(t, b, m, from)
		for seq := range 7 {
			if seq < from {
				notKept(t, b, seq)
				continue
			}
			want := api.Row{}
			if versions[seq] > 0 {
				want = api.Row{Key: "a", Value: values[seq], Version: versions[seq]}
			}
			if r, there, e := b.At("a", seq); r != want || there != (versions[seq] > 0) || e != 0 {
				t.Errorf("At(a, %d) behind Commit(%d): %v, %v, %d", seq, from, r, there, e)
			}
			if r, there, e := b.At("\x00s\x01", seq); r.Value != own[seq] || there != (seq > 0) || e != 0 {
				t.Errorf("At a client's row, %d, behind Commit(%d): %v, %v, %d", seq, from, r, there, e)
			}
		}
		holds(t, b, m)
	}
}

// All calls, in any order, against the chapter's words.
func TestPlay(t *testing.T) {
	for seed := range 150 {
		r := rand.New(rand.NewSource(int64(seed)))
		s := api.State{}
		if seed%3 == 0 {
			s = some()
		}
		b, m := over(t, s)
		for range 40 {
			play(t, r, b, m)
			holds(t, b, m)
		}
	}
}

// The limit of rows is looked at in the store behind applied, not in the base.
func TestFull(t *testing.T) {
	const most = 1<<20 - 16
	rows := make([]api.Row, most)
	for i := range rows {
		rows[i] = api.Row{Key: fmt.Sprintf("k%07d", i), Version: i + 1}
	}
	b := vers.New(load(t, api.State{Seq: most, Rows: rows}))
	for i, c := range []struct {
		kind    api.OpKind
		key     string
		code    api.Code
		version int
	}{
		{1, "a", 4, 0},
		{3, "a", 4, 0},
		{2, rows[5].Key, 1, most + 3},
		{1, "a", 1, most + 4},
		{1, "b", 4, 0},
		{2, "a", 1, most + 6},
		{3, "b", 1, most + 7},
		{1, rows[5].Key, 4, 0},
		{1, rows[6].Key, 1, most + 9},
	} {
		got, e := b.Apply(update(most+1+i, 1+i, 1, c.kind, c.key, "", 0))
		if e != 0 || got != (api.Result{Code: c.code, Version: c.version}) || b.Clean(c.key) {
			t.Fatalf("%d: %v, %d", i, got, e)
		}
	}
	at := func(key string, want ...int) {
		t.Helper()
		for seq := b.Committed(); seq <= b.Applied(); seq++ {
			r, there, e := b.At(key, seq)
			version := want[seq-most]
			if e != 0 || r.Version != version || there != (version > 0) {
				t.Errorf("At(%q, %d): %v, %v, %d", key, seq, r, there, e)
			}
		}
	}
	for _, seq := range []int{most, most + 4, most + 9} {
		if e := b.Commit(seq); e != 0 {
			t.Fatal(e)
		}
		at("a", 0, 0, 0, 0, most+4, most+4, 0, 0, 0, 0)
		at("b", 0, 0, 0, 0, 0, 0, 0, most+7, most+7, most+7)
		at(rows[5].Key, 6, 6, 6, 0, 0, 0, 0, 0, 0, 0)
		at(rows[6].Key, 7, 7, 7, 7, 7, 7, 7, 7, 7, most+9)
	}
	if b.Base().Table().Len() != most+9 || b.Store().Table().Len() != most+9 {
		t.Error("rows:", b.Base().Table().Len())
	}
}

// Many open updates cost no more than each of them does: what is told of one number, and what is committed, is not worked out from all the others.
func TestMany(t *testing.T) {
	const n = 60000
	b := vers.New(delta.New())
	key := func(seq int) string { return fmt.Sprintf("k%d", seq%1000) }
	for seq := 1; seq <= n; seq++ {
		if _, e := b.Apply(put(seq, key(seq), "x")); e != 0 {
			t.Fatal(e)
		}
	}
	for seq := 1; seq <= n; seq++ {
		if r, there, e := b.At(key(seq), seq); e != 0 || !there || r.Version != seq {
			t.Fatalf("At(%d): %v, %v, %d", seq, r, there, e)
		}
		if r, there, e := b.At(key(seq), seq-1); e != 0 || there != (seq > 1000) || r.Version != max(0, seq-1000) {
			t.Fatalf("At(%d): %v, %v, %d", seq-1, r, there, e)
		}
		few := min(seq%10, n-b.Committed())
		if l, e := b.From(n - few); e != 0 || len(l) != few {
			t.Fatalf("From(%d): %d updates, %d", n-few, len(l), e)
		}
		if e := b.Commit(seq); e != 0 || b.Clean(key(seq)) != (seq > n-1000) {
			t.Fatalf("Commit(%d): %d", seq, e)
		}
	}
	if b.Committed() != n || b.Base().Table().Len() != 1001 {
		t.Error("Committed, Base")
	}
}
