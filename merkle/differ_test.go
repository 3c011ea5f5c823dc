package merkle_test

import (
	"math/rand"
	"slices"
	"testing"

	"hawser/api"
	"hawser/merkle"
	"hawser/table"
)

// P10.6, P10.10

// differs holds Differ of two trees, both ways, against what is wanted.
func differs(t *testing.T, a, b *merkle.Tree, want []int) {
	t.Helper()
	for range 2 {
		if l, e := a.Differ(b); e != 0 || !slices.Equal(l, want) {
			t.Fatalf("Differ: %v, %d; want %v", l, e, want)
		}
		a, b = b, a
	}
	for level := range a.Depth() + 1 {
		for i := range wide(level) {
			d, _ := a.At(level, i)
			o, _ := b.At(level, i)
			size := wide(a.Depth() - level)
			at, _ := slices.BinarySearch(want, i*size)
			if below := at < len(want) && want[at] < (i+1)*size; (d != o) != below {
				t.Fatalf("At(%d, %d): unlike is %v", level, i, d != o)
			}
		}
	}
}

func TestDifferExamples(t *testing.T) {
	differs(t, made(t, 1, row("a", "x", 1)), made(t, 1, row("b", "x", 1)), []int{6})
	differs(t, made(t, 2, row("a", "x", 1)), made(t, 2, row("b", "x", 1)), []int{97, 98})
	differs(t, made(t, 3, row("a", "x", 1)), made(t, 3, row("b", "x", 1)), []int{0x610, 0x620})
}

func TestDiffer(t *testing.T) {
	for _, depth := range depths {
		all := everywhere(depth)
		full, none := of(t, depth, all...), made(t, depth)
		var every []int
		for i := range wide(depth) {
			every = append(every, i)
		}
		differs(t, full, full, nil)
		differs(t, none, none, nil)
		differs(t, full, of(t, depth, all...), nil)
		differs(t, full, made(t, depth, all...), nil)
		differs(t, full, full.Snapshot(), nil)
		differs(t, full, none, every)
		// One bucket: each one of few, the first and the last ones of many.
		for i := range wide(depth) {
			if i > 20 && i < wide(depth)-20 && i%97 != 0 {
				continue
			}
			differs(t, none, made(t, depth, all[i]), []int{i})
			x := full.Snapshot()
			x.Delete(all[i].Key)
			differs(t, full, x, []int{i})
			put(t, x, row(all[i].Key, all[i].Value, all[i].Version+1))
			differs(t, full, x, []int{i})
			put(t, x, all[i])
			differs(t, full, x, nil)
		}
		// Some.
		x, want := full.Snapshot(), []int{}
		for i := 0; i < wide(depth); i += 3 {
			put(t, x, row(all[i].Key, "other", 1))
			want = append(want, i)
		}
		differs(t, full, x, want)
	}
}

func TestDifferRandom(t *testing.T) {
	r := rand.New(rand.NewSource(107))
	for range 60 {
		depth := 1 + r.Intn(3)
		rows := randomRows(r, r.Intn(20))
		a, b := modelOf(rows...), modelOf(rows...)
		for range r.Intn(4) {
			x, y := randomRow(r), randomKey(r)
			a[x.Key] = x
			delete(b, y)
		}
		differs(t, made(t, depth, a.rows()...), of(t, depth, b.rows()...), unlike(a.levels(depth), b.levels(depth)))
	}
}

func TestDifferRefused(t *testing.T) {
	for _, a := range depths {
		for _, b := range depths {
			for _, rows := range [][]api.Row{nil, alike()} {
				l, e := made(t, a, rows...).Differ(made(t, b, rows...))
				want := api.Errno(1)
				if a == b {
					want = 0
				}
				if e != want || len(l) != 0 {
					t.Errorf("depths %d and %d: %v, %d", a, b, l, e)
				}
			}
		}
	}
}

// A Put or a Delete changes the digests on one way alone, and there each.
func TestOneWay(t *testing.T) {
	for _, depth := range depths {
		for _, rows := range [][]api.Row{nil, alike(), everywhere(depth)} {
			x := of(t, depth, rows...)
			for _, r := range slices.Concat(alike(), []api.Row{row("new", "", 1), row("\x7f\x01", "", 1), row("\xfe", "", 1)}) {
				for _, do := range []func(){
					func() { put(t, x, row(r.Key, "first", 3)) },
					func() { put(t, x, row(r.Key, "second", 3)) },
					func() { put(t, x, row(r.Key, "second", 4)) },
					func() { x.Delete(r.Key) },
				} {
					was := told(t, x)
					do()
					now := told(t, x)
					b := bucketOf(depth, r.Key)
					for level := range was {
						for i := range was[level] {
							if (was[level][i] != now[level][i]) != (i == b/wide(depth-level)) {
								t.Fatalf("depth %d, key %.20q: node %d of level %d: changed is %v", depth, r.Key, i, level, was[level][i] != now[level][i])
							}
						}
					}
				}
			}
		}
	}
}

// What changes nothing changes no digest.
func TestNoChange(t *testing.T) {
	for _, depth := range depths {
		x := made(t, depth, alike()...)
		want := told(t, x)
		for _, r := range alike() {
			put(t, x, r)
			x.Delete(r.Key + "none")
			x.Put(row(r.Key, "", 0))
		}
		if !sameLevels(told(t, x), want) {
			t.Errorf("depth %d", depth)
		}
	}
}

// P10.6: whatever is done with the one, every call of the other one answers the same.
func TestSnapshot(t *testing.T) {
	for _, depth := range depths {
		for _, asked := range []bool{false, true} { // have the digests been asked for ahead of it?
			x, m := made(t, depth, alike()...), modelOf(alike()...)
			if asked {
				x.Root()
			}
			s, o := x.Snapshot(), m.copy()
			if s == x {
				t.Fatal("the tree itself")
			}
			put(t, x, row("a", "changed", 9), row("new", "", 1))
			m["a"], m["new"] = row("a", "changed", 9), row("new", "", 1)
			x.Delete("ab")
			delete(m, "ab")
			holds(t, s, depth, o)
			holds(t, x, depth, m)
			put(t, s, row("a", "otherwise", 7), row("ab", "again", 1))
			o["a"], o["ab"] = row("a", "otherwise", 7), row("ab", "again", 1)
			holds(t, x, depth, m)
			holds(t, s, depth, o)
			for key := range o {
				s.Delete(key)
			}
			holds(t, s, depth, model{})
			holds(t, x, depth, m)
		}
		holds(t, made(t, depth).Snapshot(), depth, model{})
	}
}

// kin is a tree of a family, with what it must hold.
type kin struct {
	tree  *merkle.Tree
	depth int
	rows  model
}

// A family of trees, each a snapshot, a copy or an Of another one's rows, in turns.
func TestFamily(t *testing.T) {
	for seed := range 6 {
		r := rand.New(rand.NewSource(int64(300 + seed)))
		var l []kin
		for _, depth := range depths {
			l = append(l, kin{made(t, depth), depth, model{}})
		}
		for i := range 500 {
			a, b := r.Intn(len(l)), r.Intn(len(l))
			switch {
			case r.Intn(8) > 0:
				act(t, r, l[a].tree, l[a].rows)
			case len(l) < 10:
				l = append(l, born(t, r, l[a]))
			default:
				l[b] = born(t, r, l[a])
			}
			if i%10 == 0 {
				holds(t, l[b].tree, l[b].depth, l[b].rows)
			}
			if _, e := l[a].tree.Differ(l[b].tree); (e == 0) != (l[a].depth == l[b].depth) {
				t.Fatalf("Differ of depths %d and %d: %d", l[a].depth, l[b].depth, e)
			}
		}
		for _, k := range l {
			holds(t, k.tree, k.depth, k.rows)
		}
	}
}

func born(t *testing.T, r *rand.Rand, k kin) kin {
	t.Helper()
	m := k.rows.copy()
	switch r.Intn(4) {
	case 0:
		c := *k.tree
		return kin{&c, k.depth, m}
	case 1:
		depth := 1 + r.Intn(3)
		return kin{of(t, depth, m.rows()...), depth, m}
	}
	return kin{k.tree.Snapshot(), k.depth, m}
}

// A tree that was copied as a value is a tree of its own, and may be laid back.
func TestCopied(t *testing.T) {
	for _, depth := range depths {
		x, m := made(t, depth, alike()...), modelOf(alike()...)
		c, o := *x, m.copy()
		put(t, x, row("a", "changed", 9))
		m["a"] = row("a", "changed", 9)
		holds(t, x, depth, m)
		put(t, &c, row("b", "otherwise", 9))
		c.Delete("a")
		o["b"] = row("b", "otherwise", 9)
		delete(o, "a")
		x.Root()
		holds(t, &c, depth, o)
		holds(t, x, depth, m)

		put(t, x, row("later", "", 1))
		before, p := *x, m.copy()
		p["later"] = row("later", "", 1)
		x.Root()
		x.Delete("later")
		x.Delete("\xff")
		x.Root()
		*x = before
		holds(t, x, depth, p)
		holds(t, &before, depth, p)
	}
}

// A tree that many snapshots are taken of, and one of each of these.
func TestSnapshotsOfSnapshots(t *testing.T) {
	for _, depth := range depths {
		x, m := made(t, depth), model{}
		var l []kin
		for i, r := range alike() {
			put(t, x, r)
			m[r.Key] = r
			l = append(l, kin{x.Snapshot(), depth, m.copy()})
			if i%2 == 0 {
				x = x.Snapshot()
			}
		}
		for _, k := range l {
			holds(t, k.tree, depth, k.rows)
			holds(t, k.tree.Snapshot(), depth, k.rows)
		}
	}
}

// Of takes a table that is a snapshot of another one, and shares parts with it.
func TestOfSnapshots(t *testing.T) {
	y := tableOf(t, alike()...)
	var trees []*merkle.Tree
	var tables []*table.Table
	for i, r := range alike() {
		x, e := merkle.Of(1+i%3, y)
		if e != 0 {
			t.Fatalf("Of: %d", e)
		}
		trees, tables = append(trees, x), append(tables, y.Snapshot())
		y.Delete(r.Key)
	}
	for i, x := range trees {
		holds(t, x, 1+i%3, modelOf(slices.Collect(tables[i].Rows(api.Range{}))...))
	}
}
