package probe_test

import (
	"math/rand"
	"slices"
	"testing"

	"hawser/api"
	"hawser/merkle"
	"hawser/probe"
)

// P11.2, P11.3

func TestProberExamples(t *testing.T) {
	mine, theirs := made(t, 1), made(t, 1, row("a", "x", 1))
	p := probed(t, mine)
	for range 2 {
		if e := p.Take(1, []int{0}, []api.Digest{theirs.Root()}); e != errAsk {
			t.Errorf("what was not asked: %d", e)
		}
		if e := p.Take(0, []int{0}, nil); e != errCount {
			t.Errorf("no digests: %d", e)
		}
		tells(t, p, question{0, []int{0}, 0, nil})
	}
	if e := p.Take(0, []int{0}, []api.Digest{theirs.Root()}); e != 0 {
		t.Fatalf("Take: %d", e)
	}
	sixteen := count(0, 16)
	tells(t, p, question{1, sixteen, 1, nil})
	d, _ := probe.Answer(theirs, 1, sixteen...)
	if e := p.Take(1, sixteen, d); e != 0 {
		t.Fatalf("Take: %d", e)
	}
	tells(t, p, question{0, nil, 17, []int{6}})
	if e := p.Take(1, sixteen, d); e != errOver {
		t.Errorf("behind the end: %d", e)
	}
	tells(t, p, question{0, nil, 17, []int{6}})
}

// All buckets unlike: one question for level 1, 4 for level 2, 64 for level 3.
func TestAllUnlike(t *testing.T) {
	for _, depth := range depths {
		p := probed(t, made(t, depth))
		x := of(t, depth, inBuckets(depth, everyBucket(depth)...)...)
		for level := range depth + 1 {
			size := min(64, wide(level))
			for first := 0; first < wide(level); first += size {
				l, nodes, ok := p.Ask()
				if !ok || l != level || !slices.Equal(nodes, count(first, size)) {
					t.Fatalf("depth %d: Ask: %d, %v, %v; want %d, %d on", depth, l, nodes, ok, level, first)
				}
				if level == depth && !slices.Equal(p.Buckets(), count(0, first)) || level < depth && len(p.Buckets()) > 0 {
					t.Fatalf("depth %d: Buckets: %v at node %d of level %d", depth, p.Buckets(), first, level)
				}
				d, _ := probe.Answer(x, l, nodes...)
				if e := p.Take(l, nodes, d); e != 0 {
					t.Fatalf("Take: %d", e)
				}
			}
		}
		asked := []int{0, 17, 273, 4369}[depth]
		tells(t, p, question{0, nil, asked, everyBucket(depth)})
		if n := finds(t, probed(t, made(t, depth)), x); n != []int{0, 2, 6, 70}[depth] {
			t.Errorf("depth %d: %d questions", depth, n)
		}
	}
}

// How the children of so many unlike nodes are cut into questions.
func TestCut(t *testing.T) {
	for n := 1; n <= 16; n++ {
		var buckets []int
		for i := range n {
			buckets = append(buckets, (16-n+i)*16+i)
		}
		p := probed(t, made(t, 2))
		x := of(t, 2, inBuckets(2, buckets...)...)
		var sizes []int
		for {
			level, nodes, ok := p.Ask()
			if !ok {
				break
			}
			sizes = append(sizes, len(nodes))
			takes(t, p, question{level: level, nodes: nodes}, by(x))
		}
		want := []int{1, 16}
		for left := 16 * n; left > 0; left -= 64 {
			want = append(want, min(left, 64))
		}
		if !slices.Equal(sizes, want) || !slices.Equal(p.Buckets(), buckets) {
			t.Errorf("%d: questions of %v, want %v; buckets %v", n, sizes, want, p.Buckets())
		}
	}
}

// unlikes are lists of buckets: none, one, some, all.
func unlikes(depth int) map[string][]int {
	end := wide(depth)
	third, spread := []int{}, []int{}
	for i := 0; i < end; i += 3 {
		third = append(third, i)
	}
	for i := range 16 {
		spread = append(spread, i*end/16+i%(end/16))
	}
	return map[string][]int{
		"none": nil, "the first": {0}, "the last": {end - 1}, "ends": {0, end - 1}, "neighbours": {end/2 - 1, end / 2}, "one sixteen": count(end-16, 16),
		"third": third, "spread": spread, "half": count(0, end/2), "all but one": slices.Delete(everyBucket(depth), end/2, end/2+1), "all": everyBucket(depth),
	}
}

// Every step of a prober is the plan's, whatever is unlike; mine is the one or the other tree.
func TestSteps(t *testing.T) {
	for _, depth := range depths {
		base := of(t, depth, inBuckets(depth, everyBucket(depth)...)...)
		for name, l := range unlikes(depth) {
			x := base.Snapshot()
			for _, b := range l {
				put(t, x, row(inBucket(depth, b).Key, "other", 9000))
			}
			t.Run(name, func(t *testing.T) {
				follows(t, probed(t, base), depth, by(base), by(x), nil)
				follows(t, probed(t, x), depth, by(x), by(base), nil)
			})
		}
	}
}

// With an error nothing changes, at no step and not behind the end.
func TestRefused(t *testing.T) {
	for _, depth := range depths {
		base := made(t, depth)
		for name, l := range unlikes(depth) {
			if depth == 3 && len(l) > 16 {
				continue
			}
			x := of(t, depth, inBuckets(depth, l...)...)
			t.Run(name, func(t *testing.T) {
				p := probed(t, base)
				follows(t, p, depth, by(base), by(x), func(q question) {
					if len(q.nodes) == 0 {
						refuses(t, p, behindEnd(by(x)))
						return
					}
					refuses(t, p, wrongs(q, by(x)))
				})
			})
		}
	}
}

// An answer that was taken is not taken again.
func TestTakenOnce(t *testing.T) {
	for _, depth := range depths {
		mine, theirs := by(made(t, depth)), by(of(t, depth, inBuckets(depth, everyBucket(depth)...)...))
		p := probed(t, made(t, depth))
		l := plan(depth, mine, theirs)
		for i, q := range l[:len(l)-1] {
			if depth == 3 && i > 9 && i%13 != 0 {
				takes(t, p, q, theirs)
				continue
			}
			for _, earlier := range l[:i] {
				if e := p.Take(earlier.level, earlier.nodes, theirs.all(earlier.level, earlier.nodes)); e != errAsk {
					t.Fatalf("an answer of long ago: %d", e)
				}
			}
			for _, later := range l[i+1 : min(i+9, len(l)-1)] {
				if e := p.Take(later.level, later.nodes, theirs.all(later.level, later.nodes)); e != errAsk {
					t.Fatalf("an answer of later on: %d", e)
				}
			}
			tells(t, p, q)
			takes(t, p, q, theirs)
		}
		tells(t, p, l[len(l)-1])
		for _, q := range l {
			if e := p.Take(q.level, q.nodes, theirs.all(q.level, q.nodes)); e != errOver {
				t.Fatalf("behind the end: %d", e)
			}
		}
		tells(t, p, l[len(l)-1])
	}
}

// Ask is the same until its answer was taken.
func TestAskAgain(t *testing.T) {
	mine, theirs := made(t, 2), of(t, 2, inBuckets(2, count(60, 30)...)...)
	p := probed(t, mine)
	follows(t, p, 2, by(mine), by(theirs), func(q question) {
		for range 5 {
			tells(t, p, q)
		}
	})
}

// A digest is unlike by any one bit of it.
func TestEachBit(t *testing.T) {
	for _, depth := range depths {
		x := made(t, depth, row("a", "x", 1))
		for bit := range 256 {
			p := probed(t, x)
			for level := range depth + 1 {
				l, nodes, _ := p.Ask()
				if l != level {
					t.Fatalf("bit %d: no question of level %d", bit, level)
				}
				d := by(x).all(l, nodes)
				d[len(d)/2][bit/8] ^= 1 << (bit % 8)
				if e := p.Take(l, nodes, d); e != 0 {
					t.Fatalf("Take: %d", e)
				}
			}
			if b := p.Buckets(); !p.Over() || len(b) != 1 || p.Asked() != 1+16*depth {
				t.Fatalf("bit %d: %v, %d", bit, b, p.Asked())
			}
		}
	}
}

// Made over a tree as that is at the time: what is done with it later is not seen.
func TestTreeChanged(t *testing.T) {
	r := rand.New(rand.NewSource(21))
	for _, depth := range depths {
		for _, reckoned := range []bool{false, true} { // have the digests been asked for ahead of it?
			for range 4 {
				rows := inBuckets(depth, r.Perm(wide(depth))[:10]...)
				x, mine := made(t, depth, rows...), by(made(t, depth, rows...))
				theirs := by(made(t, depth, inBuckets(depth, r.Perm(wide(depth))[:10]...)...))
				if reckoned {
					x.Root()
				}
				p := probed(t, x)
				change := func(question) {
					for range 3 {
						put(t, x, row(inBucket(depth, r.Intn(wide(depth))).Key, "changed", 7))
						x.Delete(rows[r.Intn(len(rows))].Key)
					}
					if r.Intn(2) == 0 {
						x.Root()
					}
				}
				change(question{})
				follows(t, p, depth, mine, theirs, change)
			}
		}
	}
}

// The tree may become another one altogether, even one of another depth.
func TestTreeOverwritten(t *testing.T) {
	for _, depth := range depths {
		for _, other := range append(depths, 0) {
			x, mine := made(t, depth, row("a", "x", 1)), by(made(t, depth, row("a", "x", 1)))
			theirs := by(made(t, depth, row("a", "y", 1), row("z", "", 1)))
			p := probed(t, x)
			*x = merkle.Tree{}
			if other > 0 {
				*x = *made(t, other, row("b", "", 2))
			}
			follows(t, p, depth, mine, theirs, nil)
		}
	}
}

// The tree that answers may change as well: each answer is taken as it comes.
func TestOtherChanged(t *testing.T) {
	for _, depth := range depths {
		mine, theirs := made(t, depth), made(t, depth, row("a", "x", 1))
		p := probed(t, mine)
		asked := 0
		for {
			level, nodes, ok := p.Ask()
			if !ok {
				break
			}
			d, e := probe.Answer(theirs, level, nodes...)
			if e != 0 || p.Take(level, nodes, d) != 0 {
				t.Fatalf("Answer: %d", e)
			}
			asked += len(d)
			theirs.Delete("a")
		}
		tells(t, p, question{0, nil, asked, nil})
		if asked != 17 {
			t.Errorf("depth %d: %d digests", depth, asked)
		}
	}
}

// R4: two probers over one tree know nothing of each other, nor does a copy of one.
func TestApart(t *testing.T) {
	for _, depth := range depths {
		x := made(t, depth, row("a", "x", 1))
		one, other := by(of(t, depth, inBuckets(depth, everyBucket(depth)...)...)), by(made(t, depth, row("a", "y", 1)))
		p, q := probed(t, x), probed(t, x)
		tells(t, q, question{0, []int{0}, 0, nil})
		follows(t, p, depth, by(x), one, func(question) { tells(t, q, question{0, []int{0}, 0, nil}) })
		follows(t, q, depth, by(x), other, nil)
		l := plan(depth, by(x), one)
		tells(t, p, l[len(l)-1])
	}
}

// A copy hears other answers from some step on; both come to their own ends.
func TestCopied(t *testing.T) {
	for _, depth := range []int{1, 2} {
		x := made(t, depth, row("a", "x", 1))
		mine := by(x)
		one := besides(mine, func(int, int) bool { return true })
		other := besides(mine, func(_, node int) bool { return node%2 == 1 })
		l := plan(depth, mine, one)
		for at := range l {
			p := probed(t, x)
			for _, q := range l[:at] {
				takes(t, p, q, one)
			}
			c := *p
			turned := func(level, node int) api.Digest {
				for _, q := range l[:at] {
					if q.level == level && slices.Contains(q.nodes, node) {
						return one(level, node)
					}
				}
				return other(level, node)
			}
			k := plan(depth, mine, turned)
			for i := at; i < max(len(l), len(k)); i++ {
				goesOn(t, &c, k, i, turned)
				goesOn(t, p, l, i, one)
			}
			tells(t, &c, k[len(k)-1])
			tells(t, p, l[len(l)-1])
		}
	}
}

// goesOn brings a prober one step on by a plan, if that has one.
func goesOn(t *testing.T, p *probe.Prober, l []question, at int, s says) {
	t.Helper()
	if at < len(l) {
		tells(t, p, l[at])
	}
	if at < len(l)-1 {
		takes(t, p, l[at], s)
	}
}
