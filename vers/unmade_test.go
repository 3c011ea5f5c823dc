package vers_test

import (
	"math"
	"testing"

	"hawser/api"
	"hawser/delta"
	"hawser/vers"
)

// R5: a book that no call made changes nothing, and answers zero values.
func TestUnmade(t *testing.T) {
	for name, b := range map[string]*vers.Book{"nil": nil, "zero": {}, "new": new(vers.Book), "over a nil store": vers.New(nil), "over a zero store": vers.New(&delta.Store{})} {
		for range 3 { // what was asked of it makes nothing of it
			tellsNothing(t, name, b)
		}
	}
}

func tellsNothing(t *testing.T, name string, b *vers.Book) {
	t.Helper()
	for _, u := range []api.Update{put(1, "a", "x"), put(2, "a", "x"), {}, update(1, 99, 0, 9, "", "", -1)} {
		if r, e := b.Apply(u); e != errMade || r != (api.Result{}) {
			t.Errorf("%s: Apply: %v, %d", name, r, e)
		}
	}
	for _, seq := range []int{math.MinInt, -1, 0, 1, math.MaxInt} {
		if e := b.Commit(seq); e != errMade {
			t.Errorf("%s: Commit(%d): %d", name, seq, e)
		}
		if l, e := b.From(seq); e != errMade || len(l) != 0 {
			t.Errorf("%s: From(%d): %d", name, seq, e)
		}
		for _, key := range keys() {
			if r, there, e := b.At(key, seq); e != errMade || there || r != (api.Row{}) {
				t.Errorf("%s: At(%.20q, %d): %v, %v, %d", name, key, seq, r, there, e)
			}
		}
		if n, r, q := b.Last(seq); n != 0 || r != (api.Result{}) || q != 0 {
			t.Errorf("%s: Last(%d): %d, %v, %d", name, seq, n, r, q)
		}
	}
	for _, key := range keys() {
		if r, there := b.Get(key); there || r != (api.Row{}) || b.Clean(key) {
			t.Errorf("%s: Get(%.20q): %v, %v", name, key, r, there)
		}
	}
	if b.Applied() != 0 || b.Committed() != 0 || b.Store() != nil || b.Base() != nil {
		t.Errorf("%s: Applied, Committed, Store, Base", name)
	}
}

// A book over a store without rows is one that a call made.
func TestEmptyIsMade(t *testing.T) {
	b := vers.New(delta.New())
	if b.Commit(0) != 0 || !b.Clean("a") || b.Store() == nil || b.Base() == nil {
		t.Error("a book over a new store")
	}
}

// A book that was overwritten by none is as one that no call made; a store that was, behind New, is not seen.
func TestOverwritten(t *testing.T) {
	s := load(t, some())
	b, m := vers.New(s), &model{first: some(), committed: 7}
	*s = delta.Store{}
	holds(t, b, m)
	x := b.Base()
	*x = delta.Store{}
	x = b.Store()
	*x = delta.Store{}
	holds(t, b, m)
	*b = vers.Book{}
	tellsNothing(t, "overwritten", b)
}
