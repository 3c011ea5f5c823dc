package probe_test

import (
	"slices"
	"sync"
	"testing"

	"hawser/api"
	"hawser/merkle"
	"hawser/probe"
)

// R3: what is handed in stays, what is answered is the caller's own.

func spoil[T any](l []T, by T) {
	l = l[:cap(l)]
	for i := range l {
		l[i] = by
	}
}

// roomy is a list with some room behind its end, in which by stands.
func roomy[T any](l []T, by T) []T {
	return append(slices.Clone(l), by, by, by, by)[: len(l) : len(l)+4]
}

// kept: a list and the room behind it are as roomy made them.
func kept[T comparable](t *testing.T, name string, l, want []T, by T) {
	t.Helper()
	if !slices.Equal(l, want) || !slices.Equal(l[len(l):cap(l)], []T{by, by, by, by}) {
		t.Fatalf("%s: what was handed in has changed", name)
	}
}

func TestNodesHandedIn(t *testing.T) {
	x := made(t, 2, row("a", "x", 1))
	for _, c := range []struct {
		level int
		nodes []int
		want  api.Errno
	}{{2, []int{1, 5, 255}, 0}, {2, count(0, 64), 0}, {1, nil, errArg}, {1, []int{3, 3}, errArg}, {1, []int{3, 2, 1}, errArg}, {2, count(0, 65), errArg}, {1, []int{0, 16}, errPlace}, {9, []int{0}, errPlace}} {
		nodes := roomy(c.nodes, 77)
		d, e := probe.Answer(x, c.level, nodes...)
		if e != c.want {
			t.Fatalf("Answer(%d, %v): %d", c.level, c.nodes, e)
		}
		kept(t, "Answer", nodes, c.nodes, 77)
		spoil(nodes, -1)
		if e == 0 && !slices.Equal(d, by(x).all(c.level, c.nodes)) {
			t.Fatal("Answer hangs on what was handed in")
		}
	}
}

// The lists that Take is given may be spoilt behind it, taken or refused.
func TestAnswersHandedIn(t *testing.T) {
	mark := api.Digest{1, 2, 3}
	for _, depth := range depths {
		mine, theirs := made(t, depth), by(of(t, depth, inBuckets(depth, everyBucket(min(depth, 2))...)...))
		p := probed(t, mine)
		give := func(w wrong) {
			nodes, digests := roomy(w.nodes, 77), roomy(w.digests, mark)
			if e := p.Take(w.level, nodes, digests); e != w.want {
				t.Fatalf("Take: %d", e)
			}
			kept(t, "Take's nodes", nodes, w.nodes, 77)
			kept(t, "Take's digests", digests, w.digests, mark)
			spoil(nodes, -1)
			spoil(digests, mark)
		}
		for _, q := range plan(depth, by(mine), theirs) {
			tells(t, p, q)
			if len(q.nodes) == 0 {
				for _, w := range behindEnd(theirs) {
					give(w)
				}
			} else {
				for _, w := range wrongs(q, theirs) {
					give(w)
				}
				give(wrong{q.level, q.nodes, theirs.all(q.level, q.nodes), 0})
			}
		}
	}
}

func TestListsAnswered(t *testing.T) {
	for _, depth := range depths {
		mine, x := made(t, depth, row("b", "", 1)), of(t, depth, inBuckets(depth, everyBucket(min(depth, 2))...)...)
		theirs := by(x)
		p := probed(t, mine)
		spoilAll := func(q question) {
			level, nodes, _ := p.Ask()
			spoil(nodes, -1)
			spoil(p.Buckets(), -1)
			if len(q.nodes) > 0 {
				d, _ := probe.Answer(x, level, q.nodes...)
				again, _ := probe.Answer(x, level, q.nodes...)
				spoil(d, api.Digest{9})
				if !slices.Equal(again, theirs.all(level, q.nodes)) {
					t.Fatal("Answer: an answer hangs on another one")
				}
				own, _ := probe.Answer(mine, level, q.nodes...)
				spoil(own, api.Digest{9})
			}
		}
		follows(t, p, depth, by(mine), theirs, spoilAll)
		for level := range depth + 1 {
			answers(t, x, theirs, level, count(0, min(64, wide(level)))...)
		}
	}
}

// What was answered stays, whatever is done later.
func TestAnswersStay(t *testing.T) {
	mine, theirs := made(t, 2), of(t, 2, inBuckets(2, everyBucket(2)...)...)
	digests, _ := probe.Answer(theirs, 2, count(0, 64)...)
	want := by(theirs).all(2, count(0, 64))
	p := probed(t, mine)
	l := plan(2, by(mine), by(theirs))
	var nodes, buckets [][]int
	for _, q := range l {
		_, n, _ := p.Ask()
		nodes, buckets = append(nodes, n), append(buckets, p.Buckets())
		if len(q.nodes) > 0 {
			takes(t, p, q, by(theirs))
		}
	}
	for i, q := range l {
		if !slices.Equal(nodes[i], q.nodes) || !slices.Equal(buckets[i], q.buckets) {
			t.Fatalf("the answers of step %d have changed", i)
		}
	}
	for b := range 256 {
		theirs.Delete(inBucket(2, b).Key)
	}
	theirs.Root()
	if !slices.Equal(digests, want) {
		t.Error("an answer has changed")
	}
}

// A prober changes nothing at its tree, nor does Answer.
func TestTreesStay(t *testing.T) {
	for _, depth := range depths {
		rows := inBuckets(depth, 0, 7, wide(depth)-1)
		mine, theirs := made(t, depth, rows...), made(t, depth, row("a", "x", 1))
		finds(t, probed(t, mine), theirs)
		finds(t, probed(t, theirs), mine)
		for _, c := range []struct {
			x    *merkle.Tree
			rows []api.Row
		}{{mine, rows}, {theirs, []api.Row{row("a", "x", 1)}}} {
			if d, e := c.x.Differ(made(t, depth, c.rows...)); e != 0 || len(d) != 0 || c.x.Len() != len(c.rows) || c.x.Depth() != depth {
				t.Errorf("depth %d: a tree has changed: %v, %d", depth, d, e)
			}
		}
	}
}

// Probers over one tree go to goroutines of their own, while it is changed: what they share is never written to.
func TestGoroutines(t *testing.T) {
	for _, depth := range depths {
		x := made(t, depth, row("a", "x", 1))
		mine, theirs := by(x), by(of(t, depth, inBuckets(depth, everyBucket(min(depth, 2))...)...))
		l := plan(depth, mine, theirs)
		first := probed(t, x)
		var wg sync.WaitGroup
		for i := range 6 {
			p := probe.New(x)
			if i%2 == 0 {
				c := *first
				p = &c
			}
			wg.Go(func() {
				for _, q := range l[:len(l)-1] {
					if e := p.Take(q.level, q.nodes, theirs.all(q.level, q.nodes)); e != 0 {
						t.Errorf("Take: %d", e)
					}
				}
				if end := l[len(l)-1]; !p.Over() || p.Asked() != end.asked || !slices.Equal(p.Buckets(), end.buckets) {
					t.Errorf("%v, %d", p.Buckets(), p.Asked())
				}
			})
		}
		for i := range 30 {
			put(t, x, inBucket(depth, i%16))
			x.Root()
		}
		wg.Wait()
		tells(t, first, l[0])
	}
}
