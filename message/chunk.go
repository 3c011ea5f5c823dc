package message

import "hawser/api"

// rowHeads is what a row weighs beside its key and its value.
const rowHeads = 16

// maxRows: no more rows than these, of the least weight, can be in one chunk.
const maxRows = api.MaxChunk / (rowHeads + 1)

// The fewest bytes that a piece has, and a row.
const (
	pieceBytes = 4
	rowBytes   = 4
)

// load is a chunk that is carried: what its pieces and rows are held against.
type load struct {
	p      *pass
	least  int    // what the next piece's bucket may be at least: 0 for the first piece alone
	whole  bool   // the piece ahead has ended its bucket
	key    string // of the row ahead in this piece
	weight int    // of all rows
}

func (p *pass) chunk() {
	given, c := p.given.Chunk, &p.passed.Chunk
	c.Index = p.num(given.Index, 0, maxChunks-1)
	c.Last = p.flag(given.Last)
	l := load{p: p}
	c.Pieces = list(p, given.Pieces, limits{1, maxBuckets, pieceBytes}, l.piece)
}

// piece carries a piece. The first one alone may go on with a bucket that was begun in a chunk ahead, and the last one
// alone may leave one to the chunk behind.
func (l *load) piece(given api.Piece) api.Piece {
	bucket := l.p.num(given.Bucket, l.least, maxBuckets-1)
	first := l.p.flag(given.First)
	last := l.p.flag(given.Last)
	must(l.least == 0 || l.whole && first)
	l.least, l.whole, l.key = bucket+1, last, ""
	rows := list(l.p, given.Rows, limits{0, maxRows, rowBytes}, l.row)
	must(len(rows) > 0 || first && last)
	return api.Piece{Bucket: bucket, First: first, Last: last, Rows: rows}
}

// row carries a row. (One alone never weighs more than a chunk may.)
func (l *load) row(given api.Row) api.Row {
	r := l.p.row(given)
	must(r.Key > l.key)
	l.key = r.Key
	l.weight += len(r.Key) + len(r.Value) + rowHeads
	must(l.weight <= api.MaxChunk)
	return r
}
