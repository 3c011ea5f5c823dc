package probe_test

import (
	"encoding/hex"
	"fmt"
	"math"
	"math/rand"
	"slices"
	"testing"

	"hawser/api"
	"hawser/merkle"
	"hawser/probe"
	"hawser/table"
)

// The errors by their numbers, as the document has them.
const (
	errArg   = 1
	errMade  = 2
	errPlace = 100
	errAsk   = 110
	errCount = 111
	errOver  = 112
)

var depths = []int{1, 2, 3}

func wide(level int) int { return []int{1, 16, 256, 4096}[level] }

func row(key, value string, version int) api.Row {
	return api.Row{Key: key, Value: value, Version: version}
}

// inBucket is a row of a bucket.
func inBucket(depth, bucket int) api.Row {
	key, _ := hex.DecodeString(fmt.Sprintf("%0*x1000", depth, bucket)[:4])
	return row(string(key), "v", 1+bucket)
}

func inBuckets(depth int, buckets ...int) []api.Row {
	var l []api.Row
	for _, b := range buckets {
		l = append(l, inBucket(depth, b))
	}
	return l
}

func everyBucket(depth int) []int { return count(0, wide(depth)) }

// count: so many numbers from the first one on.
func count(first, n int) []int {
	var l []int
	for i := range n {
		l = append(l, first+i)
	}
	return l
}

func put(t *testing.T, x *merkle.Tree, rows ...api.Row) {
	t.Helper()
	for _, r := range rows {
		if e := x.Put(r); e != 0 {
			t.Fatalf("Put(%.20q): %d", r.Key, e)
		}
	}
}

// made is a tree with these rows, put one by one.
func made(t *testing.T, depth int, rows ...api.Row) *merkle.Tree {
	t.Helper()
	x, e := merkle.New(depth)
	if e != 0 {
		t.Fatalf("New(%d): %d", depth, e)
	}
	put(t, x, rows...)
	return x
}

// of is a tree over a table with these rows.
func of(t *testing.T, depth int, rows ...api.Row) *merkle.Tree {
	t.Helper()
	y := table.New()
	for _, r := range rows {
		if e := y.Put(r); e != 0 {
			t.Fatalf("Put(%.20q): %d", r.Key, e)
		}
	}
	x, e := merkle.Of(depth, y)
	if e != 0 {
		t.Fatalf("Of(%d): %d", depth, e)
	}
	return x
}

// probed is a prober over a tree.
func probed(t *testing.T, x *merkle.Tree) *probe.Prober {
	t.Helper()
	p := probe.New(x)
	if p == nil {
		t.Fatal("New: nil")
	}
	return p
}

// says is how digests are answered: by a level and a node of it.
type says func(level, node int) api.Digest

// by answers as a tree does, as that is now.
func by(x *merkle.Tree) says {
	s := x.Snapshot()
	return func(level, node int) api.Digest {
		d, _ := s.At(level, node)
		return d
	}
}

// besides answers as another one does, but for what is unlike.
func besides(s says, unlike func(level, node int) bool) says {
	return func(level, node int) api.Digest {
		d := s(level, node)
		if unlike(level, node) {
			d[(level+node)%32] ^= 1 << (node % 8)
		}
		return d
	}
}

func (s says) all(level int, nodes []int) []api.Digest {
	var l []api.Digest
	for _, n := range nodes {
		l = append(l, s(level, n))
	}
	return l
}

// question is what a prober asks, and what it tells of itself then: the chapter's words written out plainly.
type question struct {
	level   int
	nodes   []int
	asked   int   // digests that were taken ahead of it
	buckets []int // that were found ahead of it
}

// plan are all questions of a prober over mine that is answered by other, and at last what it tells at its end.
func plan(depth int, mine, other says) []question {
	var l []question
	var buckets []int
	asked := 0
	nodes := []int{0}
	for level := 0; level <= depth; level++ {
		var below []int
		for part := range slices.Chunk(nodes, 64) {
			l = append(l, question{level, part, asked, slices.Clone(buckets)})
			asked += len(part)
			for _, n := range part {
				if mine(level, n) == other(level, n) {
					continue
				}
				if level == depth {
					buckets = append(buckets, n)
				}
				below = append(below, count(16*n, 16)...)
			}
		}
		nodes = below
	}
	return append(l, question{0, nil, asked, buckets})
}

// tells: every call that tells something of a prober tells just this; the question without nodes is the end.
func tells(t *testing.T, p *probe.Prober, q question) {
	t.Helper()
	level, nodes, ok := p.Ask()
	if level != q.level || !slices.Equal(nodes, q.nodes) || ok != (len(q.nodes) > 0) {
		t.Fatalf("Ask: %d, %v, %v; want %d, %v", level, nodes, ok, q.level, q.nodes)
	}
	if p.Over() != (len(q.nodes) == 0) {
		t.Fatalf("Over: %v at %v", p.Over(), q)
	}
	if b := p.Buckets(); !slices.Equal(b, q.buckets) {
		t.Fatalf("Buckets: %v, want %v", b, q.buckets)
	}
	if p.Asked() != q.asked {
		t.Fatalf("Asked: %d, want %d", p.Asked(), q.asked)
	}
}

// takes gives a prober the answer to a question.
func takes(t *testing.T, p *probe.Prober, q question, other says) {
	t.Helper()
	if e := p.Take(q.level, slices.Clone(q.nodes), other.all(q.level, q.nodes)); e != 0 {
		t.Fatalf("Take(%d, %v): %d", q.level, q.nodes, e)
	}
}

// follows brings a prober over mine to its end, and holds it against the plan at each step; between is called ahead of each one.
func follows(t *testing.T, p *probe.Prober, depth int, mine, other says, between func(q question)) {
	t.Helper()
	for _, q := range plan(depth, mine, other) {
		tells(t, p, q)
		if between != nil {
			between(q)
			tells(t, p, q)
		}
		if len(q.nodes) > 0 {
			takes(t, p, q, other)
		}
	}
}

// finds brings a prober to its end by Answer of a tree, and answers how many questions it had.
func finds(t *testing.T, p *probe.Prober, x *merkle.Tree) int {
	t.Helper()
	for n := 0; ; n++ {
		level, nodes, ok := p.Ask()
		if !ok {
			return n
		}
		d, e := probe.Answer(x, level, nodes...)
		if e != 0 {
			t.Fatalf("Answer(%d, %v): %d", level, nodes, e)
		}
		if e := p.Take(level, nodes, d); e != 0 {
			t.Fatalf("Take(%d, %v): %d", level, nodes, e)
		}
	}
}

// wrong is an answer that a prober refuses.
type wrong struct {
	level   int
	nodes   []int
	digests []api.Digest
	want    api.Errno
}

// wrongs are answers that are not those to a question: to another level, to other nodes, of another number of digests, and of several faults.
func wrongs(q question, other says) []wrong {
	right := other.all(q.level, q.nodes)
	var l []wrong
	for _, level := range []int{math.MinInt, -1, q.level - 1, q.level + 1, 4, math.MaxInt} {
		l = append(l, wrong{level, q.nodes, right, errAsk}, wrong{level, q.nodes, nil, errAsk}, wrong{level, nil, nil, errAsk})
	}
	for _, nodes := range otherNodes(q.nodes) {
		l = append(l, wrong{q.level, nodes, right, errAsk}, wrong{q.level, nodes, make([]api.Digest, len(nodes)), errAsk}, wrong{q.level, nodes, nil, errAsk})
	}
	for _, d := range [][]api.Digest{nil, right[1:], right[:len(right)-1], append(right, api.Digest{}), append(right, right...)} {
		l = append(l, wrong{q.level, q.nodes, d, errCount})
	}
	return l
}

// otherNodes are lists that are not these nodes: fewer, more, others, in another order.
func otherNodes(nodes []int) [][]int {
	n := len(nodes)
	first, last := slices.Clone(nodes), slices.Clone(nodes)
	first[0]--
	last[n-1]++
	l := [][]int{
		nil, {}, nodes[1:], nodes[:n-1], first, last, count(nodes[0]+1, n),
		slices.Insert(slices.Clone(nodes), 0, nodes[0]-1), append(slices.Clone(nodes), nodes[n-1]+1), append(slices.Clone(nodes), nodes[n-1]),
		slices.Concat(nodes, nodes), {math.MinInt}, {math.MaxInt}, make([]int, n+1), make([]int, 5000),
	}
	if n > 1 {
		turned, middle := slices.Clone(nodes), slices.Clone(nodes)
		slices.Reverse(turned)
		middle[n/2] = middle[n/2-1]
		l = append(l, turned, middle, nodes[:1], slices.Delete(slices.Clone(nodes), n/2, n/2+1))
	}
	return l
}

// refuses gives a prober wrong answers.
func refuses(t *testing.T, p *probe.Prober, l []wrong) {
	t.Helper()
	for _, w := range l {
		if e := p.Take(w.level, w.nodes, w.digests); e != w.want {
			t.Fatalf("Take(%d, %v) with %d digests: %d, want %d", w.level, w.nodes, len(w.digests), e, w.want)
		}
	}
}

// behindEnd are answers that come when nothing is asked any more.
func behindEnd(other says) []wrong {
	var l []wrong
	for _, level := range []int{math.MinInt, -1, 0, 1, 2, 3, 4, math.MaxInt} {
		for _, nodes := range [][]int{nil, {}, {0}, {-1}, count(0, 16), count(0, 64), {3, 3}} {
			l = append(l, wrong{level, nodes, nil, errOver}, wrong{level, nodes, other.all(0, make([]int, len(nodes))), errOver})
		}
	}
	return l
}

// mess answers with whatever digests, the same one for the same node: now mine, now others.
func mess(r *rand.Rand, mine says, alikeOf int) says {
	salt, unlike := r.Int63(), byte(r.Intn(256))
	return func(level, node int) api.Digest {
		q := rand.New(rand.NewSource(salt + int64(level)*5000 + int64(node)))
		if q.Intn(alikeOf) > 0 {
			return mine(level, node)
		}
		return api.Digest{unlike, byte(q.Intn(3))}
	}
}
