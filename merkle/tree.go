package merkle

import (
	"slices"

	"hawser/api"
	"hawser/span"
	"hawser/table"
)

// Tree is rows in buckets, and digests above them. New, Of and Snapshot make one.
type Tree struct {
	depth int
	rows  *table.Table // never changed, but given up for others: whoever has a copy of the tree keeps what it had
	book  *book
}

// New answers a tree without rows.
func New(depth int) (*Tree, api.Errno) { return Of(depth, table.New()) }

// Of answers a tree with a table's rows.
func Of(depth int, t *table.Table) (*Tree, api.Errno) {
	if depth < 1 || depth > api.MaxDepth {
		return nil, api.ErrSpanDepth
	}
	rows := t.Snapshot()
	if rows == nil {
		return nil, api.ErrMade // a table has no snapshot just if no call made it
	}
	made := &Tree{depth, rows, bookOf(depth, rows)}
	made.book.reckon()
	return made, api.OK
}

// Put lays a row down, in the place of the one with its key.
func (t *Tree) Put(r api.Row) api.Errno {
	if !t.isMade() {
		return api.ErrMade
	}
	next := t.rows.Snapshot()
	if err := next.Put(r); err != api.OK {
		return err
	}
	t.change(r.Key, next)
	return api.OK
}

// Delete takes a key's row away, and answers whether there was one.
func (t *Tree) Delete(key string) bool {
	if !t.isMade() {
		return false
	}
	next := t.rows.Snapshot()
	if !next.Delete(key) {
		return false
	}
	t.change(key, next)
	return true
}

// Depth answers how many levels there are below the root.
func (t *Tree) Depth() int {
	if !t.isMade() {
		return 0
	}
	return t.depth
}

// Len answers how many rows there are.
func (t *Tree) Len() int {
	if !t.isMade() {
		return 0
	}
	return t.rows.Len()
}

// Root answers the digest of all.
func (t *Tree) Root() api.Digest {
	d, _ := t.At(0, 0)
	return d
}

// At answers the digest of the i-th node of a level.
func (t *Tree) At(level, i int) (api.Digest, api.Errno) {
	switch {
	case !t.isMade():
		return api.Digest{}, api.ErrMade
	case level < 0 || level > t.depth || i < 0 || i >= width(level):
		return api.Digest{}, api.ErrMerklePlace
	}
	return t.digests()[level][i], api.OK
}

// Rows answers a bucket's rows, by rising keys.
func (t *Tree) Rows(bucket int) ([]api.Row, api.Errno) {
	if !t.isMade() {
		return nil, api.ErrMade
	}
	in, err := span.Of(t.depth, bucket)
	if err != api.OK {
		return nil, err
	}
	return slices.Collect(t.rows.Rows(in)), api.OK
}

// Path answers the digests beside the way from a bucket up to the root.
func (t *Tree) Path(bucket int) ([]api.Digest, api.Errno) {
	if !t.isMade() {
		return nil, api.ErrMade
	}
	if _, err := span.Of(t.depth, bucket); err != api.OK {
		return nil, err
	}
	levels := t.digests()
	path := make([]api.Digest, 0, others*t.depth)
	node := bucket
	for level := t.depth; level > 0; level-- {
		first := node - node%api.Fan
		path = append(path, levels[level][first:node]...)
		path = append(path, levels[level][node+1:first+api.Fan]...)
		node /= api.Fan
	}
	return path, api.OK
}

// Differ answers the buckets whose digests are unlike in two trees, rising.
func (t *Tree) Differ(other *Tree) ([]int, api.Errno) {
	switch {
	case !t.isMade() || !other.isMade():
		return nil, api.ErrMade
	case t.depth != other.depth:
		return nil, api.ErrArg
	}
	mine, its := t.digests()[t.depth], other.digests()[t.depth]
	var unlike []int
	for bucket := range mine {
		if mine[bucket] != its[bucket] {
			unlike = append(unlike, bucket)
		}
	}
	return unlike, api.OK
}

// Snapshot answers a tree with the same rows; what is done with the one is not seen at the other.
func (t *Tree) Snapshot() *Tree {
	if !t.isMade() {
		return nil
	}
	return &Tree{t.depth, t.rows, t.own().copied()}
}

func (t *Tree) isMade() bool { return t != nil && t.rows != nil }

// change takes up rows that are unlike those before at a key alone.
func (t *Tree) change(key string, rows *table.Table) {
	b := t.own()
	b.mark(key)
	b.rows = rows
	t.rows = rows
}

// digests answers the digests of all nodes, by their levels.
func (t *Tree) digests() [][]api.Digest {
	b := t.own()
	b.reckon()
	return b.levels
}

// own answers the tree's book. A tree that was copied as a value shares it with the copy, until one of the two goes on with it; the other one finds other rows there, and begins a book of its own.
func (t *Tree) own() *book {
	if t.book.rows != t.rows {
		t.book = bookOf(t.depth, t.rows)
	}
	return t.book
}
