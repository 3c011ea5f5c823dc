package probe

import (
	"slices"

	"hawser/api"
	"hawser/merkle"
)

// Prober finds the buckets in which another tree is unlike its own. New makes one. Its lists are never changed, but given up for others: a copy of a prober goes on by itself.
type Prober struct {
	depth  int    // of its own tree; 0: no call made it
	own    lookup // of its own tree, as that was when the prober was made; nil behind the end
	level  int    // of the question at hand
	left   []int  // nodes of this level whose digests are not there yet, rising
	unlike []int  // nodes of this level that were found unlike, rising
	asked  int
}

// New answers a prober that has asked nothing.
func New(mine *merkle.Tree) *Prober {
	tree := mine.Snapshot()
	if tree == nil {
		return nil // a tree has no snapshot just if no call made it
	}
	return &Prober{depth: tree.Depth(), own: tree.At, left: []int{0}}
}

// Ask answers the question at hand; false: there is none any more.
func (p *Prober) Ask() (int, []int, bool) {
	if !p.isMade() || p.Over() {
		return 0, nil, false
	}
	return p.level, slices.Clone(p.question()), true
}

// Take takes the answer to the question at hand.
func (p *Prober) Take(level int, nodes []int, digests []api.Digest) api.Errno {
	switch {
	case !p.isMade():
		return api.ErrMade
	case p.Over():
		return api.ErrProbeOver
	case level != p.level || !slices.Equal(nodes, p.question()):
		return api.ErrProbeAsk
	case len(digests) != len(nodes):
		return api.ErrProbeCount
	}
	p.compare(digests)
	p.asked += len(digests)
	p.left = p.left[len(digests):]
	if len(p.left) == 0 && p.level < p.depth {
		p.descend()
	}
	if p.Over() {
		p.own = nil // nothing is compared any more: the tree need not be kept
	}
	return api.OK
}

// Over answers whether the answers to all questions were taken.
func (p *Prober) Over() bool { return p.isMade() && len(p.left) == 0 }

// Buckets answers the unlike buckets that were found so far, rising.
func (p *Prober) Buckets() []int {
	if !p.isMade() || p.level < p.depth {
		return nil
	}
	return slices.Clone(p.unlike)
}

// Asked answers how many digests were taken so far.
func (p *Prober) Asked() int {
	if !p.isMade() {
		return 0
	}
	return p.asked
}

func (p *Prober) isMade() bool { return p != nil && p.depth > 0 }

// question answers the nodes of the question at hand.
func (p *Prober) question() []int { return p.left[:min(len(p.left), api.MaxAsk)] }

// compare notes which nodes of the question at hand have other digests than these in the prober's own tree.
func (p *Prober) compare(digests []api.Digest) {
	nodes := p.question()
	mine, _ := p.own.all(p.level, nodes) // the tree has all nodes that are asked for
	var found []int
	for i, n := range nodes {
		if mine[i] != digests[i] {
			found = append(found, n)
		}
	}
	p.unlike = slices.Concat(p.unlike, found)
}

// descend goes on to the children of the unlike nodes.
func (p *Prober) descend() {
	below := make([]int, 0, api.Fan*len(p.unlike))
	for _, n := range p.unlike {
		for i := range api.Fan {
			below = append(below, api.Fan*n+i)
		}
	}
	p.level, p.left, p.unlike = p.level+1, below, nil
}
