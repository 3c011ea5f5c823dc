package sender

import (
	"cmp"
	"slices"

	"hawser/api"
	"hawser/image"
	"hawser/span"
)

// Cut answers buckets of a state as chunks, of which each has rows of so many bytes at most, or one row.
func Cut(s api.State, depth, bytes int, buckets ...int) ([]api.Chunk, api.Errno) {
	if err := mayCut(s, depth, bytes, buckets); err != api.OK {
		return nil, err
	}
	if len(buckets) == 0 {
		return nil, api.OK
	}
	c := cutter{most: bytes}
	c.begin()
	for _, b := range buckets {
		c.lay(b, rowsOf(s.Rows, depth, b))
	}
	c.chunks[len(c.chunks)-1].Last = true
	return c.chunks, api.OK
}

// mayCut answers what is wrong with what Cut was given.
func mayCut(s api.State, depth, bytes int, buckets []int) api.Errno {
	if err := image.Check(s); err != api.OK {
		return err
	}
	if _, err := span.Ranges(depth); err != api.OK {
		return err
	}
	if bytes < api.MinChunk || bytes > api.MaxChunk {
		return api.ErrArg
	}
	if _, err := span.Ranges(depth, buckets...); err != api.OK || !rise(buckets) {
		return api.ErrSenderWant
	}
	return api.OK
}

// rise answers whether each number is greater than the one ahead.
func rise(l []int) bool {
	for i := 1; i < len(l); i++ {
		if l[i] <= l[i-1] {
			return false
		}
	}
	return true
}

// rowsOf answers where the rows of a bucket stand among rows by keys.
func rowsOf(rows []api.Row, depth, bucket int) []api.Row {
	r, _ := span.Of(depth, bucket) // there is this bucket: Cut has looked
	rows = rows[place(rows, r.From):]
	if r.To != "" {
		rows = rows[:place(rows, r.To)]
	}
	return rows
}

// place answers how many of some rows have keys less than a text.
func place(rows []api.Row, text string) int {
	n, _ := slices.BinarySearchFunc(rows, text, func(r api.Row, text string) int { return cmp.Compare(r.Key, text) })
	return n
}

// cutter lays rows into chunks.
type cutter struct {
	most   int // bytes of a chunk's rows
	chunks []api.Chunk
	weight int // of the rows of the chunk at hand, which is the last one
}

// begin begins the next chunk.
func (c *cutter) begin() {
	c.chunks = append(c.chunks, api.Chunk{Index: len(c.chunks)})
	c.weight = 0
}

// lay lays the rows of a bucket into the chunk at hand, and what that does not take into further ones.
func (c *cutter) lay(bucket int, rows []api.Row) {
	for at := 0; ; c.begin() {
		n := c.load(rows[at:])
		p := api.Piece{Bucket: bucket, First: at == 0, Last: at+n == len(rows), Rows: slices.Clone(rows[at : at+n])}
		if n > 0 || p.Last {
			chunk := &c.chunks[len(c.chunks)-1]
			chunk.Pieces = append(chunk.Pieces, p)
		}
		if p.Last {
			return
		}
		at += n
	}
}

// load loads the chunk at hand with rows as long as they go into it, and answers how many did. A chunk without rows takes any row.
func (c *cutter) load(rows []api.Row) int {
	for i, r := range rows {
		w := len(r.Key) + len(r.Value) + 16
		if c.weight > 0 && c.weight+w > c.most {
			return i
		}
		c.weight += w
	}
	return len(rows)
}

// clone answers a chunk that shares nothing with another one.
func clone(c api.Chunk) api.Chunk {
	c.Pieces = slices.Clone(c.Pieces)
	for i := range c.Pieces {
		c.Pieces[i].Rows = slices.Clone(c.Pieces[i].Rows)
	}
	return c
}
