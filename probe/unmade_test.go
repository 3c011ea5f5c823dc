package probe_test

import (
	"math"
	"testing"

	"hawser/api"
	"hawser/merkle"
	"hawser/probe"
)

// R5: a prober that no call made changes nothing, and answers zero values.
func TestUnmade(t *testing.T) {
	for name, p := range map[string]*probe.Prober{"nil": nil, "zero": {}, "over a nil tree": probe.New(nil)} {
		for range 2 { // what was asked of it makes nothing of it
			for _, level := range []int{math.MinInt, -1, 0, 1, 3, 4, math.MaxInt} {
				for _, nodes := range [][]int{nil, {}, {0}, {3, 3}, count(0, 16), count(0, 65)} {
					for _, n := range []int{0, 1, len(nodes)} {
						if e := p.Take(level, nodes, make([]api.Digest, n)); e != errMade {
							t.Errorf("%s: Take(%d, %v): %d", name, level, nodes, e)
						}
					}
				}
			}
			if level, nodes, ok := p.Ask(); level != 0 || len(nodes) != 0 || ok {
				t.Errorf("%s: Ask: %d, %v, %v", name, level, nodes, ok)
			}
			if p.Over() || len(p.Buckets()) != 0 || p.Asked() != 0 {
				t.Errorf("%s: Over, Buckets, Asked", name)
			}
		}
	}
}

// Trees that no call made.
func TestUnmadeTrees(t *testing.T) {
	for name, x := range map[string]*merkle.Tree{"nil": nil, "zero": {}, "new": new(merkle.Tree)} {
		for range 2 {
			if probe.New(x) != nil {
				t.Errorf("%s: New", name)
			}
			for _, level := range []int{math.MinInt, -1, 0, 1, 3, 4, math.MaxInt} {
				for _, nodes := range [][]int{nil, {}, {0}, {-1}, {3, 3}, {2, 1}, count(0, 64), count(0, 65), {math.MaxInt}} {
					if d, e := probe.Answer(x, level, nodes...); e != errMade || len(d) != 0 {
						t.Errorf("%s: Answer(%d, %v): %d", name, level, nodes, e)
					}
				}
			}
		}
		if x.Depth() != 0 || x.Snapshot() != nil {
			t.Errorf("%s: something was made of it", name)
		}
	}
}

// A prober that was overwritten by none is as one that no call made.
func TestOverwritten(t *testing.T) {
	p := probed(t, made(t, 1))
	before := *p
	*p = probe.Prober{}
	if _, _, ok := p.Ask(); ok || p.Over() || p.Take(0, []int{0}, make([]api.Digest, 1)) != errMade {
		t.Error("what was overwritten goes on")
	}
	*p = before
	tells(t, p, question{0, []int{0}, 0, nil})
}
