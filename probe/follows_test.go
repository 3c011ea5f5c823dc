package probe_test

import (
	"fmt"
	"math/rand"
	"slices"
	"testing"

	"hawser/api"
	"hawser/merkle"
	"hawser/probe"
)

// P11.5

// above are how many digests are asked for where these buckets are unlike: the root, and the sixteens below each node above one of them.
func above(depth int, buckets []int) int {
	n := 1
	for level := range depth {
		nodes := map[int]int{}
		for _, b := range buckets {
			nodes[b/wide(depth-level)]++
		}
		n += 16 * len(nodes)
	}
	return n
}

// found: a prober at its end has found just what Differ tells of two trees, by no more digests than it may.
func found(t *testing.T, p *probe.Prober, mine, theirs *merkle.Tree) {
	t.Helper()
	depth := mine.Depth()
	want, e := mine.Differ(theirs)
	if e != 0 {
		t.Fatalf("Differ: %d", e)
	}
	most, e := probe.Bound(depth, len(want))
	if e != 0 || p.Asked() > most {
		t.Fatalf("depth %d, %d buckets: asked %d; Bound: %d, %d", depth, len(want), p.Asked(), most, e)
	}
	tells(t, p, question{0, nil, above(depth, want), want})
}

func TestFound(t *testing.T) {
	for _, depth := range depths {
		full, none := of(t, depth, inBuckets(depth, everyBucket(depth)...)...), made(t, depth)
		for name, l := range unlikes(depth) {
			t.Run(fmt.Sprint(depth, " ", name), func(t *testing.T) {
				some, less, other := of(t, depth, inBuckets(depth, l...)...), full.Snapshot(), full.Snapshot()
				for _, b := range l {
					less.Delete(inBucket(depth, b).Key)
					put(t, other, row(inBucket(depth, b).Key, "other", 1))
				}
				for _, pair := range [][2]*merkle.Tree{{none, some}, {some, none}, {full, less}, {less, full}, {full, other}, {other, less}} {
					if d, _ := pair[0].Differ(pair[1]); !slices.Equal(d, l) {
						t.Fatalf("Differ: %v", d)
					}
					p := probed(t, pair[0])
					finds(t, p, pair[1])
					found(t, p, pair[0], pair[1])
				}
			})
		}
	}
}

// Each bucket alone: Asked comes up to Bound.
func TestFoundOne(t *testing.T) {
	for _, depth := range depths {
		none := made(t, depth)
		for b := range wide(depth) {
			if depth == 3 && b > 40 && b < 4056 && b%97 != 0 {
				continue
			}
			theirs := made(t, depth, inBucket(depth, b))
			p := probed(t, none)
			finds(t, p, theirs)
			found(t, p, none, theirs)
			if most, _ := probe.Bound(depth, 1); p.Asked() != most || p.Buckets()[0] != b {
				t.Fatalf("depth %d, bucket %d: %v, asked %d", depth, b, p.Buckets(), p.Asked())
			}
		}
	}
}

// Buckets as far from each other as may be: Asked comes up to Bound, so no lesser one would do.
func TestBoundReached(t *testing.T) {
	for _, depth := range depths {
		none := made(t, depth)
		for _, n := range []int{0, 1, 2, 3, 15, 16, 17, 255, 256, 257, 4095, 4096} {
			if n > wide(depth) {
				continue
			}
			var buckets []int
			for i := range n { // the digits of i the other way round
				b := 0
				for rest, digit := i, 0; digit < depth; digit++ {
					b, rest = b*16+rest%16, rest/16
				}
				buckets = append(buckets, b)
			}
			p := probed(t, none)
			theirs := of(t, depth, inBuckets(depth, buckets...)...)
			finds(t, p, theirs)
			found(t, p, none, theirs)
			if most, _ := probe.Bound(depth, n); p.Asked() != most {
				t.Errorf("depth %d, %d buckets: asked %d, Bound %d", depth, n, p.Asked(), most)
			}
		}
	}
}

// Whatever is asked between, of the prober and of its tree, and however often a wrong answer is refused.
func TestFoundBetween(t *testing.T) {
	r := rand.New(rand.NewSource(31))
	for range 60 {
		depth := 1 + r.Intn(3)
		mine, theirs := made(t, depth), made(t, depth)
		for range r.Intn(12) {
			x := inBucket(depth, r.Intn(wide(depth)))
			put(t, mine, x)
			put(t, theirs, x)
			put(t, theirs, inBucket(depth, r.Intn(wide(depth))))
			mine.Delete(inBucket(depth, r.Intn(wide(depth))).Key)
		}
		p := probed(t, mine)
		for level, nodes, ok := p.Ask(); ok; level, nodes, ok = p.Ask() {
			q := question{level: level, nodes: nodes}
			l := wrongs(q, by(theirs))
			for range r.Intn(20) {
				refuses(t, p, []wrong{l[r.Intn(len(l))]})
				p.Over()
				p.Asked()
				clear(p.Buckets())
				_, again, _ := p.Ask()
				clear(again)
				probe.Answer(mine, level, nodes...)
				mine.Root()
			}
			takes(t, p, q, by(theirs))
		}
		refuses(t, p, behindEnd(by(theirs)))
		found(t, p, mine, theirs)
	}
}

func TestFoundRandom(t *testing.T) {
	r := rand.New(rand.NewSource(32))
	for range 150 {
		depth := 1 + r.Intn(3)
		var rows []api.Row
		for range r.Intn(30) {
			rows = append(rows, row(string([]byte{byte(r.Intn(256)), byte(r.Intn(3))})[:1+r.Intn(2)], "v", 1+r.Intn(3)))
		}
		mine, theirs := made(t, depth, rows...), made(t, depth, rows...)
		for range r.Intn(6) {
			put(t, mine, row(string(byte(r.Intn(128))), "w", 1+r.Intn(3)))
			theirs.Delete(string(byte(r.Intn(128))))
		}
		p := probed(t, mine)
		finds(t, p, theirs)
		found(t, p, mine, theirs)
		p = probed(t, theirs)
		finds(t, p, mine)
		found(t, p, theirs, mine)
	}
}

// What lies below a node that is alike is not found, whatever it is.
func TestBelowAlike(t *testing.T) {
	x := made(t, 2)
	for hidden := range 16 {
		s := besides(by(x), func(level, node int) bool { return level != 1 || node != hidden })
		p := probed(t, x)
		follows(t, p, 2, by(x), s, nil)
		want := slices.Delete(everyBucket(2), 16*hidden, 16*hidden+16)
		if !slices.Equal(p.Buckets(), want) || p.Asked() != 1+16+240 {
			t.Errorf("node %d: asked %d", hidden, p.Asked())
		}
	}
}

// P11.6

// anything are answers that say anything at all.
func anything(r *rand.Rand, x *merkle.Tree) map[string]says {
	mine, depth := by(x), x.Depth()
	return map[string]says{
		"all unlike":          besides(mine, func(int, int) bool { return true }),
		"all alike":           mine,
		"zeros":               func(int, int) api.Digest { return api.Digest{} },
		"the root for all":    func(int, int) api.Digest { return mine(0, 0) },
		"buckets alike":       besides(mine, func(level, _ int) bool { return level < depth }),
		"the root alike":      besides(mine, func(level, _ int) bool { return level > 0 }),
		"buckets unlike":      besides(mine, func(level, _ int) bool { return level == depth }),
		"last nodes unlike":   besides(mine, func(level, node int) bool { return node == wide(level)-1 }),
		"each third unlike":   besides(mine, func(_, node int) bool { return node%3 == 0 }),
		"each fifth alike":    besides(mine, func(level, node int) bool { return level == 0 || node%5 > 0 }),
		"half of a mess":      mess(r, mine, 2),
		"a third of a mess":   mess(r, mine, 3),
		"all of a mess":       mess(r, mine, 1),
		"what a neighbour is": func(level, node int) api.Digest { return mine(level, (node+1)%wide(level)) },
	}
}

// asks brings a prober to its end, and holds each question; it answers how many digests there were.
func asks(t *testing.T, p *probe.Prober, depth int, s says) int {
	t.Helper()
	type place struct{ level, node int }
	seen := map[place]int{}
	for last := 0; ; {
		level, nodes, ok := p.Ask()
		if !ok {
			break
		}
		if len(nodes) < 1 || len(nodes) > 64 || level < last || level > depth {
			t.Fatalf("a question of level %d for %d nodes, behind one of level %d", level, len(nodes), last)
		}
		last = level
		for i, n := range nodes {
			if n < 0 || n >= wide(level) || i > 0 && n <= nodes[i-1] || seen[place{level, n}] > 0 {
				t.Fatalf("node %d of level %d, in %v", n, level, nodes)
			}
			seen[place{level, n}]++
		}
		if e := p.Take(level, nodes, s.all(level, nodes)); e != 0 {
			t.Fatalf("Take: %d", e)
		}
		if p.Asked() != len(seen) || len(seen) > 1+16+256+4096 {
			t.Fatalf("Asked: %d of %d", p.Asked(), len(seen))
		}
	}
	if !p.Over() || !slices.IsSorted(p.Buckets()) {
		t.Fatalf("Over: %v, Buckets: %v", p.Over(), p.Buckets())
	}
	return len(seen)
}

func TestAnything(t *testing.T) {
	r := rand.New(rand.NewSource(41))
	for _, depth := range depths {
		for i, x := range []*merkle.Tree{made(t, depth), made(t, depth, row("a", "x", 1)), of(t, depth, inBuckets(depth, everyBucket(depth)...)...)} {
			for name, s := range anything(r, x) {
				t.Run(fmt.Sprint(depth, i, " ", name), func(t *testing.T) {
					asks(t, probed(t, x), depth, s)
					follows(t, probed(t, x), depth, by(x), s, nil)
				})
			}
		}
	}
}

// The most that there can be, and the least.
func TestEnds(t *testing.T) {
	for _, depth := range depths {
		x := made(t, depth)
		all := anything(rand.New(rand.NewSource(1)), x)
		p := probed(t, x)
		if n := asks(t, p, depth, all["all unlike"]); n != []int{0, 17, 273, 4369}[depth] || !slices.Equal(p.Buckets(), everyBucket(depth)) {
			t.Errorf("depth %d: all unlike: %d", depth, n)
		}
		p = probed(t, x)
		if n := asks(t, p, depth, all["buckets alike"]); n != []int{0, 17, 273, 4369}[depth] || len(p.Buckets()) != 0 {
			t.Errorf("depth %d: buckets alike: %d, %v", depth, n, p.Buckets())
		}
		p = probed(t, x)
		if n := asks(t, p, depth, all["buckets unlike"]); n != 1 || len(p.Buckets()) != 0 {
			t.Errorf("depth %d: buckets unlike: %d, %v", depth, n, p.Buckets())
		}
	}
}

// Each answer says something else of its own, even of what it said before.
func TestWhatever(t *testing.T) {
	r := rand.New(rand.NewSource(42))
	for i := range 100 {
		depth := 1 + i%3
		x := made(t, depth)
		mine := by(x)
		asks(t, probed(t, x), depth, func(level, node int) api.Digest {
			if r.Intn(3) == 0 {
				return mine(level, node)
			}
			return api.Digest{byte(r.Intn(2))}
		})
	}
}

// P11.7

// came are trees over the same rows, however these came.
func came(t *testing.T, r *rand.Rand, depth int, rows []api.Row) []*merkle.Tree {
	t.Helper()
	shuffled := slices.Clone(rows)
	r.Shuffle(len(rows), func(i, j int) { shuffled[i], shuffled[j] = shuffled[j], shuffled[i] })
	between := made(t, depth)
	for _, x := range shuffled {
		put(t, between, row(x.Key, "ahead", 1), row(x.Key+"more", "gone", 1))
		between.Root()
		put(t, between, x)
		between.Delete(x.Key + "more")
	}
	copied := *between
	return []*merkle.Tree{made(t, depth, rows...), of(t, depth, rows...), made(t, depth, shuffled...), between, between.Snapshot(), &copied}
}

func TestSameRows(t *testing.T) {
	r := rand.New(rand.NewSource(51))
	for _, depth := range depths {
		for _, rows := range [][]api.Row{nil, {row("a", "x", 1)}, inBuckets(depth, 0, wide(depth)-1), inBuckets(depth, everyBucket(min(2, depth))...)} {
			l := came(t, r, depth, rows)
			for _, mine := range l {
				for _, theirs := range l {
					if mine.Root() != theirs.Root() {
						t.Fatal("another root")
					}
					p := probed(t, mine)
					if n := finds(t, p, theirs); n != 1 {
						t.Fatalf("%d questions", n)
					}
					tells(t, p, question{0, nil, 1, nil})
					if e := p.Take(0, []int{0}, []api.Digest{mine.Root()}); e != errOver {
						t.Fatalf("behind the end: %d", e)
					}
				}
			}
		}
	}
}

// The roots alike are enough, whatever the rest is.
func TestSameRoot(t *testing.T) {
	for _, depth := range depths {
		for _, x := range []*merkle.Tree{made(t, depth), made(t, depth, row("a", "x", 1))} {
			p := probed(t, x)
			if e := p.Take(0, []int{0}, []api.Digest{x.Root()}); e != 0 {
				t.Fatalf("Take: %d", e)
			}
			tells(t, p, question{0, nil, 1, nil})
		}
	}
}
