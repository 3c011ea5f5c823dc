package merkle_test

import (
	"fmt"
	"math"
	"math/rand"
	"slices"
	"testing"

	"hawser/api"
	"hawser/merkle"
	"hawser/table"
)

// depths that may be.
var depths = []int{1, 2, 3}

// P10.2

func TestDepths(t *testing.T) {
	for _, depth := range []int{math.MinInt, -3, -1, 0, 4, 5, 16, 60, math.MaxInt} {
		if x, e := merkle.New(depth); x != nil || e != 61 {
			t.Errorf("New(%d): %d", depth, e)
		}
		for name, rows := range map[string]*table.Table{"rows": tableOf(t, alike()...), "none": table.New(), "nil": nil, "zero": {}} {
			if x, e := merkle.Of(depth, rows); x != nil || e != 61 {
				t.Errorf("Of(%d, %s): %d", depth, name, e)
			}
		}
	}
	for _, depth := range depths {
		x, e := merkle.New(depth)
		if e != 0 || x == nil {
			t.Fatalf("New(%d): %d", depth, e)
		}
		holds(t, x, depth, model{})
	}
}

func TestOf(t *testing.T) {
	for _, depth := range depths {
		for name, rows := range shapes(depth) {
			y := tableOf(t, rows...)
			x, e := merkle.Of(depth, y)
			if e != 0 {
				t.Fatalf("%s: Of(%d): %d", name, depth, e)
			}
			m := modelOf(rows...)
			holds(t, x, depth, m)
			if !y.Equal(tableOf(t, rows...)) {
				t.Fatalf("%s: Of changes the table", name)
			}
			// From here on each is on its own.
			y.Put(row("a", "changed", 99))
			y.Delete("b")
			y.Put(row("other", "", 7))
			holds(t, x, depth, m)
			y.Replace(api.Range{})
			holds(t, x, depth, m)
			put(t, x, row("own", "", 5))
			m["own"] = row("own", "", 5)
			if x.Delete("a") {
				delete(m, "a")
			}
			if y.Len() != 0 {
				t.Fatalf("%s: what is done with the tree is seen at the table", name)
			}
			holds(t, x, depth, m)
		}
	}
}

// What is put into the table behind Of, and ahead of the first question, is not seen either.
func TestOfIsAtOnce(t *testing.T) {
	for _, depth := range depths {
		y := tableOf(t, alike()...)
		x, _ := merkle.Of(depth, y)
		y.Replace(api.Range{}, row("q", "", 1))
		holds(t, x, depth, modelOf(alike()...))
	}
}

// P10.3

func TestExamples(t *testing.T) {
	z := leafOf()
	x := made(t, 1)
	first := x.Root()
	var l [16]api.Digest
	for i := range l {
		l[i] = z
	}
	if first != merkle.Node(l) {
		t.Error("Root of no rows")
	}
	if d, e := x.At(1, 3); e != 0 || d != z {
		t.Errorf("At(1, 3): %x, %d", d, e)
	}
	if d, e := x.At(0, 0); e != 0 || d != first {
		t.Errorf("At(0, 0): %x, %d", d, e)
	}
	for _, c := range [][2]int{{2, 0}, {1, 16}, {0, 1}, {-1, 0}} {
		if d, e := x.At(c[0], c[1]); e != 100 || d != (api.Digest{}) {
			t.Errorf("At%v: %x, %d", c, d, e)
		}
	}
	a := row("a", "x", 1)
	put(t, x, a)
	if d, e := x.At(1, 6); e != 0 || d != sum("\x00\x01a\x01x\x01") {
		t.Errorf("At(1, 6): %x, %d", d, e)
	}
	if rows, e := x.Rows(6); e != 0 || !slices.Equal(rows, []api.Row{a}) {
		t.Errorf("Rows(6): %s, %d", show(rows...), e)
	}
	if rows, e := x.Rows(7); e != 0 || len(rows) != 0 {
		t.Errorf("Rows(7): %s, %d", show(rows...), e)
	}
	if rows, e := x.Rows(16); e != 62 || len(rows) != 0 {
		t.Errorf("Rows(16): %s, %d", show(rows...), e)
	}
	if x.Root() == first || !x.Delete("a") || x.Root() != first || x.Delete("a") || x.Root() != first {
		t.Error("Delete")
	}
}

func TestPutRefused(t *testing.T) {
	for _, depth := range depths {
		for _, rows := range [][]api.Row{nil, {row("a", "x", 1)}, alike()} {
			x, m := made(t, depth, rows...), modelOf(rows...)
			for _, r := range wrongRows() {
				for range 2 {
					if e, want := x.Put(r), fault(r); e != want || want == 0 {
						t.Errorf("Put(%s): %d, want %d", show(r), e, want)
					}
				}
			}
			holds(t, x, depth, m)
		}
	}
}

// The edges of what may be put.
func TestPutEdges(t *testing.T) {
	for _, depth := range depths {
		x, m := made(t, depth), model{}
		for _, key := range []string{"\x00", "k", "\xff", long(1024)} {
			for _, value := range []string{"", "v", long(65536)} {
				for _, version := range []int{1, 2, top - 1, top} {
					r := row(key, value, version)
					put(t, x, r)
					m[key] = r
				}
			}
		}
		holds(t, x, depth, m)
	}
}

// A row in the place of the one with its key: each of its parts is the new one's.
func TestPutOver(t *testing.T) {
	for _, depth := range depths {
		x, m := made(t, depth, alike()...), modelOf(alike()...)
		x.Root()
		for _, r := range []api.Row{row("a", "x", 2), row("a", "y", 2), row("a", "y", 2), row("a", "", 1), row("a\x00", "x", 1), row("\xff\xff\xff", "w", 4), row("a", "x", 1)} {
			put(t, x, r)
			m[r.Key] = r
			holds(t, x, depth, m)
		}
	}
}

func TestDelete(t *testing.T) {
	for _, depth := range depths {
		x, m := made(t, depth, alike()...), modelOf(alike()...)
		none := []string{"", "q", "\x00\x01", "a\x00\x00\x00", "aaaa", "A", "\xff\xff\xff\xff", long(1024), long(1025), long(70000), "\xff" + long(1022), "\xff" + long(1024)}
		for _, key := range none {
			if x.Delete(key) {
				t.Errorf("Delete(%.20q)", key)
			}
		}
		holds(t, x, depth, m)
		for i, r := range shuffled(rand.New(rand.NewSource(103)), alike()) {
			if !x.Delete(r.Key) || x.Delete(r.Key) {
				t.Errorf("Delete(%.20q)", r.Key)
			}
			delete(m, r.Key)
			if i%3 == 0 {
				holds(t, x, depth, m)
			}
		}
		holds(t, x, depth, model{})
		for _, r := range alike() {
			if x.Delete(r.Key) {
				t.Errorf("Delete(%.20q) of no rows", r.Key)
			}
		}
	}
}

// A full tree takes no row more, but another one in the place of one.
func TestFull(t *testing.T) {
	rows := make([]api.Row, api.MaxRows)
	for i := range rows {
		rows[i] = row(string([]byte{byte(i >> 12), byte(i >> 4), byte(i<<4) + 1}), "", i+1)
	}
	y, e := table.From(rows...)
	if e != 0 {
		t.Fatalf("From: %d", e)
	}
	x, e := merkle.Of(3, y)
	if e != 0 || x.Len() != 1048576 {
		t.Fatalf("Of: %d rows, %d", x.Len(), e)
	}
	root := x.Root()
	if e := x.Put(row("new", "", 1)); e != 3 {
		t.Errorf("one row more: %d", e)
	}
	if e := x.Put(row("new", long(65537), 0)); e != 71 {
		t.Errorf("one row more, that may not be: %d", e)
	}
	if x.Len() != 1048576 || x.Root() != root {
		t.Error("what was refused has changed something")
	}
	s := x.Snapshot()
	if e := s.Put(row("new", "", 1)); e != 3 {
		t.Errorf("one row more, of a snapshot: %d", e)
	}
	put(t, x, row(rows[77].Key, "over", 1))
	if x.Len() != 1048576 || x.Root() == root {
		t.Error("a row in the place of one")
	}
	if !x.Delete(rows[5].Key) || x.Put(row("new", "", 1)) != 0 || x.Put(row("newer", "", 1)) != 3 {
		t.Error("room for one")
	}
	if !x.Delete("new") || x.Put(rows[77]) != 0 || x.Put(rows[5]) != 0 || x.Root() != root {
		t.Error("all as at first")
	}
	for _, b := range []int{0, 1, 97, 4094, 4095} {
		in, e := x.Rows(b)
		if d, _ := x.At(3, b); e != 0 || !slices.Equal(in, rows[256*b:256*(b+1)]) || d != leafOf(in...) {
			t.Errorf("bucket %d: %d rows, %d", b, len(in), e)
		}
	}
}

// However many rows there are, a change costs no more than its bucket and the way up from there.
func TestChangesAreCheap(t *testing.T) {
	x := of(t, 3, everywhere(3)...)
	if n := testing.AllocsPerRun(100, func() {
		x.Put(row("a", "x", 1))
		x.Root()
		x.Delete("a")
		x.Root()
	}); n > 400 {
		t.Errorf("Put, Delete and Root: %v allocations", n)
	}
	if n := testing.AllocsPerRun(100, func() { x.Root() }); n > 0 {
		t.Errorf("Root: %v allocations", n)
	}
}

// P10.4

func TestPlaces(t *testing.T) {
	ends := []int{math.MinInt, math.MinInt + 1, -4096, -16, -1, 0, 1, 2, 3, 4, 5, 15, 16, 17, 255, 256, 257, 4095, 4096, 4097, 65535, 65536, math.MaxInt - 1, math.MaxInt}
	for _, depth := range depths {
		for _, rows := range [][]api.Row{nil, alike(), everywhere(depth)} {
			x, m := made(t, depth, rows...), modelOf(rows...)
			levels, buckets := m.levels(depth), m.buckets(depth)
			for _, i := range ends {
				for _, level := range ends {
					d, e := x.At(level, i)
					if level < 0 || level > depth || i < 0 || i >= wide(level) {
						if e != 100 || d != (api.Digest{}) {
							t.Errorf("depth %d: At(%d, %d): %x, %d", depth, level, i, d, e)
						}
					} else if e != 0 || d != levels[level][i] {
						t.Errorf("depth %d: At(%d, %d): %x, %d", depth, level, i, d, e)
					}
				}
				in, e := x.Rows(i)
				path, f := x.Path(i)
				if i < 0 || i >= wide(depth) {
					if e != 62 || f != 62 || len(in) != 0 || len(path) != 0 {
						t.Errorf("depth %d: Rows(%d): %d, Path: %d", depth, i, e, f)
					}
				} else if e != 0 || f != 0 || !slices.Equal(in, buckets[i]) || !slices.Equal(path, pathIn(levels, i)) {
					t.Errorf("depth %d: Rows(%d): %d, Path: %d", depth, i, e, f)
				}
			}
			holds(t, x, depth, m)
		}
	}
}

// P10.7

func TestShapes(t *testing.T) {
	r := rand.New(rand.NewSource(104))
	for _, depth := range depths {
		for _, rows := range shapes(depth) {
			m := modelOf(rows...)
			rising, falling, mixed := made(t, depth, rows...), made(t, depth), made(t, depth, shuffled(r, rows)...)
			for _, x := range slices.Backward(slices.SortedFunc(slices.Values(rows), compare)) {
				put(t, falling, x)
			}
			for _, x := range []*merkle.Tree{rising, falling, mixed, of(t, depth, rows...), rising.Snapshot()} {
				holds(t, x, depth, m)
			}
		}
	}
}

// However rows come, go, and come again, and whatever is asked between, it is the rows alone that count.
func TestWays(t *testing.T) {
	for seed := range 30 {
		r := rand.New(rand.NewSource(int64(seed)))
		for _, depth := range depths {
			rows := randomRows(r, 1+r.Intn(30))
			m := modelOf(rows...)
			x := made(t, depth)
			for _, y := range shuffled(r, append(randomRows(r, 20), rows...)) {
				put(t, x, row(y.Key, "before", 9))
				if r.Intn(3) == 0 {
					x.Root()
				}
				if r.Intn(3) == 0 {
					x.Delete(y.Key)
				}
			}
			for _, y := range shuffled(r, rows) {
				put(t, x, y)
			}
			for b := range wide(depth) {
				in, _ := x.Rows(b)
				for _, y := range in {
					if _, there := m[y.Key]; !there && !x.Delete(y.Key) {
						t.Fatalf("Delete(%q)", y.Key)
					}
				}
			}
			want := told(t, of(t, depth, rows...))
			if !sameLevels(told(t, x), want) || !sameLevels(told(t, made(t, depth, rows...)), want) {
				t.Fatalf("depth %d: digests hang on the way to %s", depth, show(rows...))
			}
			holds(t, x, depth, m)
		}
	}
}

// Whatever is done, all that a tree tells is told of just its rows.
func TestRun(t *testing.T) {
	for seed := range 8 {
		r := rand.New(rand.NewSource(int64(200 + seed)))
		for _, depth := range depths {
			x, m := made(t, depth), model{}
			for i := range 120 {
				act(t, r, x, m)
				if depth < 3 && i%3 == 0 || i%20 == 0 {
					holds(t, x, depth, m)
				}
			}
			holds(t, x, depth, m)
		}
	}
}

// Each digest may be the first one that is asked for behind a change.
func TestEachAskedFirst(t *testing.T) {
	for _, depth := range depths {
		rows := alike()
		m := modelOf(rows...)
		for i, r := range rows {
			x, was := made(t, depth, rows...), told(t, made(t, depth, rows...))
			b := bucketOf(depth, r.Key)
			now := m.copy()
			if i%2 == 0 {
				now[r.Key] = row(r.Key, "other", 3)
			} else {
				delete(now, r.Key)
			}
			want := now.levels(depth)
			for level := range depth + 1 {
				y := x.Snapshot()
				y.Root()
				if i%2 == 0 {
					put(t, y, now[r.Key])
				} else if !y.Delete(r.Key) {
					t.Fatalf("Delete(%q)", r.Key)
				}
				at := b / wide(depth-level)
				if d, e := y.At(level, at); e != 0 || d != want[level][at] || d == was[level][at] {
					t.Fatalf("depth %d: At(%d, %d): %x, %d", depth, level, at, d, e)
				}
			}
			y := x.Snapshot()
			if i%2 == 0 {
				put(t, y, now[r.Key])
			} else {
				y.Delete(r.Key)
			}
			if path, e := y.Path(b ^ 1); e != 0 || !slices.Equal(path, pathIn(want, b^1)) {
				t.Fatalf("depth %d: Path(%d): %d", depth, b^1, e)
			}
		}
	}
}

// P10.8: roots are alike just if all digests are, which they are just if the rows are (no two unlike texts with one digest are known).
func TestRootBinds(t *testing.T) {
	r := rand.New(rand.NewSource(105))
	for _, depth := range depths {
		trees, rows := []*merkle.Tree{}, [][]api.Row{}
		add := func(l ...api.Row) {
			trees, rows = append(trees, made(t, depth, l...)), append(rows, modelOf(l...).rows())
		}
		for _, key := range []string{"a", "aa", "b", "\xff"} {
			for _, value := range []string{"", "a"} {
				for version := 1; version < 3; version++ {
					add(row(key, value, version))
					add(row("A", "", 1), row(key, value, version))
				}
			}
		}
		add()
		add()
		for range 20 {
			l := randomRows(r, r.Intn(5))
			add(l...)
			add(shuffled(r, l)...)
		}
		likes := 0
		for i := range trees {
			for j := range trees {
				want := slices.Equal(rows[i], rows[j])
				differ, e := trees[i].Differ(trees[j])
				if (trees[i].Root() == trees[j].Root()) != want || e != 0 || (len(differ) == 0) != want {
					t.Fatalf("depth %d: %s and %s: %v, %d", depth, show(rows[i]...), show(rows[j]...), differ, e)
				}
				if want {
					likes++
				}
				if j%9 == 0 && sameLevels(told(t, trees[i]), told(t, trees[j])) != want {
					t.Fatalf("depth %d: digests of %s and %s", depth, show(rows[i]...), show(rows[j]...))
				}
			}
		}
		if likes <= len(trees) {
			t.Error("no two were alike")
		}
	}
}

// Trees of the same rows and of unlike depths are no less on their own.
func TestDepthsAreUnlike(t *testing.T) {
	roots := map[api.Digest]string{}
	for _, depth := range depths {
		for _, rows := range [][]api.Row{nil, {row("a", "x", 1)}, alike()} {
			name := fmt.Sprintf("depth %d, %d rows", depth, len(rows))
			d := made(t, depth, rows...).Root()
			if other, there := roots[d]; there {
				t.Errorf("%s and %s", other, name)
			}
			roots[d] = name
		}
	}
}
