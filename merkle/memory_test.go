package merkle_test

import (
	"math/rand"
	"slices"
	"sync"
	"testing"

	"hawser/api"
	"hawser/merkle"
)

// R3: what is handed in stays, what is answered is the caller's own.

func spoil[T any](l []T, by T) {
	l = l[:cap(l)]
	for i := range l {
		l[i] = by
	}
}

// roomy is a list with some room behind its end, in which by stands.
func roomy[T any](l []T, by T) []T {
	return append(slices.Clone(l), by, by, by, by)[: len(l) : len(l)+4]
}

// kept: a list and the room behind it are as roomy made them.
func kept[T comparable](t *testing.T, name string, l, want []T, by T) {
	t.Helper()
	if !slices.Equal(l, want) || !slices.Equal(l[len(l):cap(l)], []T{by, by, by, by}) {
		t.Fatalf("%s: what was handed in has changed", name)
	}
}

func TestRowsHandedIn(t *testing.T) {
	mark := row("mark", "mark", 77)
	for _, want := range [][]api.Row{nil, {row("a", "x", 1)}, alike(), crowd(40), wrongRows()} {
		l := roomy(want, mark)
		d := merkle.Leaf(l...)
		kept(t, "Leaf", l, want, mark)
		spoil(l, mark)
		if d != leafOf(want...) || merkle.Leaf(want...) != d {
			t.Fatal("Leaf hangs on what was handed in")
		}
	}
}

func TestDigestsHandedIn(t *testing.T) {
	mark := api.Digest{1, 2, 3}
	for _, depth := range depths {
		x := made(t, depth, alike()...)
		for _, b := range []int{0, 6, 15, wide(depth) - 1} {
			want, _ := x.Path(b)
			leaf, _ := x.At(depth, b)
			for _, c := range []struct {
				path []api.Digest
				root api.Digest
				want api.Errno
			}{{want, x.Root(), 0}, {want, mark, 102}, {want[1:], x.Root(), 101}} {
				path := roomy(c.path, mark)
				if e := merkle.Verify(c.root, depth, b, leaf, path); e != c.want {
					t.Fatalf("Verify: %d", e)
				}
				kept(t, "Verify", path, c.path, mark)
			}
		}
		holds(t, x, depth, modelOf(alike()...))
	}
	var l [16]api.Digest
	merkle.Node(l)
	if l != [16]api.Digest{} {
		t.Error("Node changes what was handed in")
	}
}

func TestListsAnswered(t *testing.T) {
	for _, depth := range depths {
		x, m := made(t, depth, alike()...), modelOf(alike()...)
		other := made(t, depth, row("a", "", 1), row("q", "", 1))
		want := unlike(m.levels(depth), modelOf(row("a", "", 1), row("q", "", 1)).levels(depth))
		for _, b := range append(want, 0, wide(depth)-1) {
			rows, _ := x.Rows(b)
			again, _ := x.Rows(b)
			spoil(rows, row("spoilt", "", -1))
			if !slices.Equal(again, m.buckets(depth)[b]) {
				t.Fatal("Rows: an answer hangs on another one")
			}
			path, _ := x.Path(b)
			twice, _ := x.Path(b)
			spoil(path, api.Digest{9})
			if !slices.Equal(twice, pathIn(m.levels(depth), b)) {
				t.Fatal("Path: an answer hangs on another one")
			}
			l, _ := x.Differ(other)
			more, _ := x.Differ(other)
			spoil(l, -1)
			if !slices.Equal(more, want) {
				t.Fatal("Differ: an answer hangs on another one")
			}
		}
		holds(t, x, depth, m)
	}
}

// What was answered stays, whatever is done later.
func TestAnswersStay(t *testing.T) {
	for _, depth := range depths {
		x, m := made(t, depth, alike()...), modelOf(alike()...)
		other := made(t, depth)
		b := bucketOf(depth, "a")
		rows, _ := x.Rows(b)
		path, _ := x.Path(b)
		differ, _ := x.Differ(other)
		root := x.Root()
		wantRows, wantPath, wantDiffer := m.buckets(depth)[b], pathIn(m.levels(depth), b), unlike(m.levels(depth), model{}.levels(depth))
		for _, r := range append(everywhere(depth), row("a", "changed", 9), row("aa", "changed", 9)) {
			put(t, x, r)
		}
		x.Root()
		x.Delete("a")
		x.Root()
		if !slices.Equal(rows, wantRows) || !slices.Equal(path, wantPath) || !slices.Equal(differ, wantDiffer) || root != m.levels(depth)[0][0] {
			t.Errorf("depth %d: an answer has changed", depth)
		}
	}
}

// R4: the same again answers the same, however goroutines run.
func TestSameAgain(t *testing.T) {
	for _, depth := range depths {
		rows := slices.Concat(crowd(100), everywhere(depth))
		rows = modelOf(rows...).rows()
		want := modelOf(rows...).levels(depth)
		for range 10 {
			if !sameLevels(told(t, of(t, depth, rows...)), want) {
				t.Fatalf("depth %d: other digests", depth)
			}
		}
	}
}

// What is asked changes nothing.
func TestAskingChangesNothing(t *testing.T) {
	for _, depth := range depths {
		x, m := made(t, depth, alike()...), modelOf(alike()...)
		other := made(t, depth)
		for range 3 {
			x.Depth()
			x.Len()
			x.Root()
			x.At(depth, 0)
			x.At(-1, 0)
			x.Rows(0)
			x.Rows(-1)
			x.Path(0)
			x.Path(-1)
			x.Differ(other)
			x.Differ(nil)
			x.Differ(x)
			x.Snapshot()
			holds(t, x, depth, m)
			holds(t, other, depth, model{})
		}
	}
}

// Snapshots go to goroutines of their own: what they share is never written to.
func TestGoroutines(t *testing.T) {
	for _, depth := range depths {
		x, m := made(t, depth, alike()...), modelOf(alike()...)
		y := tableOf(t, alike()...)
		var wg sync.WaitGroup
		for g := range 6 {
			s, c := x.Snapshot(), m.copy()
			wg.Go(func() {
				r := rand.New(rand.NewSource(int64(g)))
				for range 30 {
					k := randomRow(r)
					s.Put(k)
					c[k.Key] = k
					if s.Root() != c.levels(depth)[0][0] {
						t.Error("another Root")
					}
				}
				z, e := merkle.Of(depth, y)
				if e != 0 || z.Root() != m.levels(depth)[0][0] {
					t.Errorf("Of: %d", e)
				}
			})
		}
		for range 30 {
			put(t, x, row("a", "own", 5))
			m2 := x.Root()
			x.Delete("a")
			if x.Root() == m2 {
				t.Error("Delete changes no Root")
			}
		}
		wg.Wait()
		delete(m, "a")
		holds(t, x, depth, m)
	}
}
