package merkle_test

import (
	"math"
	"testing"

	"hawser/api"
	"hawser/merkle"
	"hawser/table"
)

// R5: a tree that no call made changes nothing, and answers zero values.

func unmade() map[string]*merkle.Tree {
	return map[string]*merkle.Tree{"nil": nil, "zero": {}, "new": new(merkle.Tree)}
}

func TestUnmade(t *testing.T) {
	for name, x := range unmade() {
		for range 2 { // what was asked of it makes nothing of it
			for _, r := range append(wrongRows(), row("a", "x", 1)) {
				if e := x.Put(r); e != 2 {
					t.Errorf("%s: Put(%s): %d", name, show(r), e)
				}
			}
			if x.Delete("a") || x.Delete("") || x.Delete(long(1025)) {
				t.Errorf("%s: Delete", name)
			}
			if x.Depth() != 0 || x.Len() != 0 || x.Root() != (api.Digest{}) {
				t.Errorf("%s: Depth, Len, Root", name)
			}
			for _, i := range []int{math.MinInt, -1, 0, 1, 15, 16, math.MaxInt} {
				for _, level := range []int{-1, 0, 1, 4} {
					if d, e := x.At(level, i); e != 2 || d != (api.Digest{}) {
						t.Errorf("%s: At(%d, %d): %x, %d", name, level, i, d, e)
					}
				}
				if l, e := x.Rows(i); e != 2 || len(l) != 0 {
					t.Errorf("%s: Rows(%d): %s, %d", name, i, show(l...), e)
				}
				if l, e := x.Path(i); e != 2 || len(l) != 0 {
					t.Errorf("%s: Path(%d): %x, %d", name, i, l, e)
				}
			}
			if x.Snapshot() != nil {
				t.Errorf("%s: Snapshot", name)
			}
		}
	}
}

// As the one tree and as the other one; that comes ahead of unlike depths.
func TestUnmadeDiffer(t *testing.T) {
	for name, x := range unmade() {
		for _, depth := range depths {
			for _, y := range []*merkle.Tree{made(t, depth), made(t, depth, alike()...)} {
				for range 2 {
					if l, e := y.Differ(x); e != 2 || len(l) != 0 {
						t.Errorf("%s handed in: %v, %d", name, l, e)
					}
					if l, e := x.Differ(y); e != 2 || len(l) != 0 {
						t.Errorf("%s: %v, %d", name, l, e)
					}
				}
			}
			y := made(t, depth, alike()...)
			y.Differ(x)
			holds(t, y, depth, modelOf(alike()...))
		}
		for other, y := range unmade() {
			if l, e := x.Differ(y); e != 2 || len(l) != 0 {
				t.Errorf("%s and %s: %v, %d", name, other, l, e)
			}
		}
		if l, e := x.Differ(x); e != 2 || len(l) != 0 {
			t.Errorf("%s and itself: %v, %d", name, l, e)
		}
	}
}

// A table that no call made.
func TestUnmadeTable(t *testing.T) {
	for name, y := range map[string]*table.Table{"nil": nil, "zero": {}, "new": new(table.Table)} {
		for _, depth := range depths {
			if x, e := merkle.Of(depth, y); e != 2 || x != nil {
				t.Errorf("Of(%d, %s): %d", depth, name, e)
			}
		}
		if y.Len() != 0 || y.Put(row("a", "x", 1)) != 2 {
			t.Errorf("%s: Of makes something of it", name)
		}
	}
}
