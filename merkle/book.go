package merkle

import (
	"slices"
	"sync"

	"hawser/api"
	"hawser/span"
	"hawser/table"
)

// book is the digests of a tree's nodes. Those above the buckets that have changed are reckoned when one is asked for, so that of many changes in a bucket the last one alone costs something.
type book struct {
	rows    *table.Table     // that it is about; never changed, but given up for others
	levels  [][]api.Digest   // from the root's down to the buckets'
	changed map[int]struct{} // buckets
}

// bookOf answers a book about some rows, with all still to be reckoned.
func bookOf(depth int, rows *table.Table) *book {
	b := &book{rows: rows, levels: blank(depth), changed: map[int]struct{}{}}
	for r := range rows.Rows(api.Range{}) {
		b.mark(r.Key)
	}
	return b
}

// blank answers the digests of a tree without rows: on each level there is but one.
func blank(depth int) [][]api.Digest {
	levels := make([][]api.Digest, depth+1)
	levels[depth] = slices.Repeat([]api.Digest{Leaf()}, width(depth))
	for level := depth - 1; level >= 0; level-- {
		levels[level] = slices.Repeat([]api.Digest{above(levels[level+1], 0)}, width(level))
	}
	return levels
}

// width answers how many nodes a level has.
func width(level int) int {
	n := 1
	for range level {
		n *= api.Fan
	}
	return n
}

// above answers the digest of a node over the digests of the level below it.
func above(below []api.Digest, node int) api.Digest {
	var l [api.Fan]api.Digest
	copy(l[:], below[node*api.Fan:])
	return Node(l)
}

func (b *book) depth() int { return len(b.levels) - 1 }

// mark notes that the bucket of a key has changed.
func (b *book) mark(key string) {
	bucket, _ := span.Bucket(b.depth(), key) // a row has, or had, this key
	b.changed[bucket] = struct{}{}
}

// reckon brings all digests up to the rows.
func (b *book) reckon() {
	if len(b.changed) == 0 {
		return
	}
	nodes := make([]int, 0, len(b.changed))
	for bucket := range b.changed {
		nodes = append(nodes, bucket)
	}
	clear(b.changed)
	slices.Sort(nodes)
	b.leaves(nodes)
	for level := b.depth() - 1; level >= 0; level-- {
		nodes = parents(nodes)
		for _, n := range nodes {
			b.levels[level][n] = above(b.levels[level+1], n)
		}
	}
}

// leaves reckons the digests of some buckets, by sixteen workers at most. Each takes every sixteenth bucket, as neighbours are often alike full.
func (b *book) leaves(buckets []int) {
	var all sync.WaitGroup
	for first := range min(api.Fan, len(buckets)) {
		all.Add(1)
		go func() {
			defer all.Done()
			for i := first; i < len(buckets); i += api.Fan {
				b.leaf(buckets[i])
			}
		}()
	}
	all.Wait()
}

func (b *book) leaf(bucket int) {
	in, _ := span.Of(b.depth(), bucket) // there is such a bucket
	b.levels[b.depth()][bucket] = digest(b.rows.Rows(in))
}

// parents answers the nodes above some nodes that rise, each once.
func parents(nodes []int) []int {
	var l []int
	for _, n := range nodes {
		if p := n / api.Fan; len(l) == 0 || l[len(l)-1] != p {
			l = append(l, p)
		}
	}
	return l
}

// copied answers a book that goes its own way, with all reckoned: what has changed by now would else be reckoned twice.
func (b *book) copied() *book {
	b.reckon()
	c := &book{rows: b.rows, changed: map[int]struct{}{}}
	for _, l := range b.levels {
		c.levels = append(c.levels, slices.Clone(l))
	}
	return c
}
