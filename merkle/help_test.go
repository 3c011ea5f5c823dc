package merkle_test

import (
	"bytes"
	"crypto/sha256"
	"encoding/binary"
	"encoding/hex"
	"fmt"
	"math/rand"
	"slices"
	"strconv"
	"strings"
	"testing"

	"hawser/api"
	"hawser/merkle"
	"hawser/table"
)

// The chapter's words written out plainly: a tree is a map of rows, of which every digest is reckoned anew, by the library's SHA-256.

type model map[string]api.Row

func sum(text string) api.Digest { return sha256.Sum256([]byte(text)) }

func number(v uint64) string { return string(binary.AppendUvarint(nil, v)) }

func rowForm(r api.Row) string {
	return number(uint64(len(r.Key))) + r.Key + number(uint64(len(r.Value))) + r.Value + number(uint64(r.Version))
}

func leafForm(rows ...api.Row) string {
	var b strings.Builder
	b.WriteByte(0)
	for _, r := range rows {
		b.WriteString(rowForm(r))
	}
	return b.String()
}

func leafOf(rows ...api.Row) api.Digest { return sum(leafForm(rows...)) }

func nodeForm(l []api.Digest) string {
	text := "\x01"
	for _, d := range l {
		text += string(d[:])
	}
	return text
}

func nodeOf(l []api.Digest) api.Digest { return sum(nodeForm(l)) }

func wide(level int) int { return []int{1, 16, 256, 4096}[level] }

// bucketOf reads a key's digits off its hexadecimal text.
func bucketOf(depth int, key string) int {
	digits := hex.EncodeToString([]byte(key)) + "000"
	n, _ := strconv.ParseInt(digits[:depth], 16, 64)
	return int(n)
}

func compare(a, b api.Row) int { return bytes.Compare([]byte(a.Key), []byte(b.Key)) }

func modelOf(rows ...api.Row) model {
	m := model{}
	for _, r := range rows {
		m[r.Key] = r
	}
	return m
}

func (m model) copy() model { return modelOf(m.rows()...) }

func (m model) rows() []api.Row {
	var l []api.Row
	for _, r := range m {
		l = append(l, r)
	}
	slices.SortFunc(l, compare)
	return l
}

// buckets are the rows of each bucket, by rising keys.
func (m model) buckets(depth int) [][]api.Row {
	l := make([][]api.Row, wide(depth))
	for _, r := range m.rows() {
		b := bucketOf(depth, r.Key)
		l[b] = append(l[b], r)
	}
	return l
}

// levels are the digests of all nodes, from the root on.
func (m model) levels(depth int) [][]api.Digest {
	l := make([][]api.Digest, depth+1)
	for _, rows := range m.buckets(depth) {
		l[depth] = append(l[depth], leafOf(rows...))
	}
	for i := depth - 1; i >= 0; i-- {
		for sixteen := range slices.Chunk(l[i+1], 16) {
			l[i] = append(l[i], nodeOf(sixteen))
		}
	}
	return l
}

// pathIn is the path of a bucket, of all digests.
func pathIn(levels [][]api.Digest, bucket int) []api.Digest {
	var path []api.Digest
	for i := len(levels) - 1; i > 0; i-- {
		for n, d := range levels[i] {
			if n/16 == bucket/16 && n != bucket {
				path = append(path, d)
			}
		}
		bucket /= 16
	}
	return path
}

// leads is the root that a path leads to.
func leads(bucket int, leaf api.Digest, path []api.Digest) api.Digest {
	for beside := range slices.Chunk(path, 15) {
		leaf = nodeOf(slices.Insert(slices.Clone(beside), bucket%16, leaf))
		bucket /= 16
	}
	return leaf
}

func unlike(a, b [][]api.Digest) []int {
	var l []int
	for i := range a[len(a)-1] {
		if a[len(a)-1][i] != b[len(b)-1][i] {
			l = append(l, i)
		}
	}
	return l
}

// told are the digests of all nodes that a tree tells.
func told(t *testing.T, x *merkle.Tree) [][]api.Digest {
	t.Helper()
	l := make([][]api.Digest, x.Depth()+1)
	for level := range l {
		for i := range wide(level) {
			d, e := x.At(level, i)
			if e != 0 {
				t.Fatalf("At(%d, %d) of depth %d: %d", level, i, x.Depth(), e)
			}
			l[level] = append(l[level], d)
		}
	}
	return l
}

func sameLevels(a, b [][]api.Digest) bool { return slices.EqualFunc(a, b, slices.Equal[[]api.Digest]) }

// holds: every call that tells something of a tree tells it of just these rows.
func holds(t *testing.T, x *merkle.Tree, depth int, m model) {
	t.Helper()
	if x.Depth() != depth || x.Len() != len(m) {
		t.Fatalf("depth %d, %d rows; want %d, %d", x.Depth(), x.Len(), depth, len(m))
	}
	levels := m.levels(depth)
	if x.Root() != levels[0][0] {
		t.Fatalf("depth %d: another Root of %s", depth, show(m.rows()...))
	}
	if !sameLevels(told(t, x), levels) {
		t.Fatalf("depth %d: other digests of %s", depth, show(m.rows()...))
	}
	for i, want := range m.buckets(depth) {
		rows, e := x.Rows(i)
		if e != 0 || !slices.Equal(rows, want) {
			t.Fatalf("depth %d: Rows(%d): %s, %d; want %s", depth, i, show(rows...), e, show(want...))
		}
	}
	for _, i := range some(depth, m) {
		path, e := x.Path(i)
		if e != 0 || !slices.Equal(path, pathIn(levels, i)) {
			t.Fatalf("depth %d: another Path(%d), %d", depth, i, e)
		}
		if e := merkle.Verify(x.Root(), depth, i, levels[depth][i], path); e != 0 {
			t.Fatalf("depth %d: Verify of Path(%d): %d", depth, i, e)
		}
	}
}

// some are the first buckets, the last ones, and one with rows.
func some(depth int, m model) []int {
	l := []int{0, 1, 15, wide(depth) - 16, wide(depth) - 1}
	if rows := m.rows(); len(rows) > 0 {
		l = append(l, bucketOf(depth, rows[len(rows)/2].Key))
	}
	return l
}

// fault is what table.Put answers of a row, where there is room.
func fault(r api.Row) api.Errno {
	switch {
	case len(r.Key) == 0 || len(r.Key) > 1024:
		return 70
	case len(r.Value) > 65536:
		return 71
	case r.Version <= 0 || r.Version > top:
		return 72
	}
	return 0
}

// top is the greatest version.
const top = 1152921504606846976

// show: rows as text, none of them too long to read.
func show(rows ...api.Row) string {
	var b strings.Builder
	for _, r := range rows {
		fmt.Fprintf(&b, "{%.20q %.20q %d}", r.Key, r.Value, r.Version)
	}
	return "[" + b.String() + "]"
}

func row(key, value string, version int) api.Row {
	return api.Row{Key: key, Value: value, Version: version}
}

func long(n int) string { return strings.Repeat("x", n) }

func put(t *testing.T, x *merkle.Tree, rows ...api.Row) {
	t.Helper()
	for _, r := range rows {
		if e := x.Put(r); e != 0 {
			t.Fatalf("Put(%s): %d", show(r), e)
		}
	}
}

// made is a tree with these rows, put one by one.
func made(t *testing.T, depth int, rows ...api.Row) *merkle.Tree {
	t.Helper()
	x, e := merkle.New(depth)
	if e != 0 || x == nil {
		t.Fatalf("New(%d): %d", depth, e)
	}
	put(t, x, rows...)
	return x
}

func tableOf(t *testing.T, rows ...api.Row) *table.Table {
	t.Helper()
	rows = slices.SortedFunc(slices.Values(rows), compare)
	x, e := table.From(rows...)
	if e != 0 {
		t.Fatalf("From: %d", e)
	}
	return x
}

// of is a tree over a table with these rows.
func of(t *testing.T, depth int, rows ...api.Row) *merkle.Tree {
	t.Helper()
	x, e := merkle.Of(depth, tableOf(t, rows...))
	if e != 0 || x == nil {
		t.Fatalf("Of(%d): %d", depth, e)
	}
	return x
}

// alike are rows whose keys begin alike, by rising keys: those of one bucket at each depth, and of neighbours.
func alike() []api.Row {
	return []api.Row{
		row("\x00", "", 1), row("\x00\x00", "", 2), row("\x00\x00\x00", "", 3), row("\x00\x0f\xff", "v", 4), row("\x00\x10", "v", 5), row("\x0f\xff", "", 6),
		row("a", "x", 1), row("a\x00", "y", 2), row("a\x00\x00", "z", 3), row("a\x0f", "", 7), row("a\x10", "", 8), row("aa", "aa", 9), row("aaa", "a", 9), row("ab", "", top), row("b", "x", 1),
		row("\xff", "", 1), row("\xff\xf0", "", 2), row("\xff\xff", "", 3), row("\xff\xff\xff", "", 4), row("\xff"+long(1023), long(300), 5),
	}
}

// everywhere are rows in every bucket of a depth.
func everywhere(depth int) []api.Row {
	var l []api.Row
	for i := range wide(depth) {
		h := fmt.Sprintf("%0*x1000", depth, i)[:4]
		key, _ := hex.DecodeString(h)
		l = append(l, row(string(key), strconv.Itoa(i), i+1))
	}
	return l
}

// crowd are many rows in one bucket of each depth.
func crowd(n int) []api.Row {
	var l []api.Row
	for i := range n {
		l = append(l, row(fmt.Sprintf("key%05d", i), strings.Repeat("v", i%7), 1+i*i))
	}
	return l
}

// shapes are sets of rows of every kind.
func shapes(depth int) map[string][]api.Row {
	return map[string][]api.Row{
		"none": nil, "one": {row("a", "x", 1)}, "the first bucket": {row("\x00", "", 1)}, "the last bucket": {row("\xff\xff", "", top)},
		"alike": alike(), "everywhere": everywhere(depth), "crowd": crowd(300),
		"long": {row(long(1024), long(65536), top), row(long(1023), "", 1), row("\xf0"+long(1023), long(65535), top-1)},
	}
}

// randomKey: one of few, so that keys meet; some begin with others.
func randomKey(r *rand.Rand) string {
	b := make([]byte, 1+r.Intn(3))
	for i := range b {
		b[i] = "\x00\x01aab\xf0\xff"[r.Intn(7)]
	}
	return string(b)
}

func randomRow(r *rand.Rand) api.Row {
	return row(randomKey(r), long(r.Intn(4)), 1+r.Intn(3))
}

func randomRows(r *rand.Rand, n int) []api.Row {
	m := model{}
	for range n {
		x := randomRow(r)
		m[x.Key] = x
	}
	return m.rows()
}

func shuffled(r *rand.Rand, rows []api.Row) []api.Row {
	rows = slices.Clone(rows)
	r.Shuffle(len(rows), func(i, j int) { rows[i], rows[j] = rows[j], rows[i] })
	return rows
}

// act does the same to a tree and to a model, and holds what is answered.
func act(t *testing.T, r *rand.Rand, x *merkle.Tree, m model) {
	t.Helper()
	switch r.Intn(8) {
	case 0, 1, 2, 3:
		y := randomRow(r)
		put(t, x, y)
		m[y.Key] = y
	case 4:
		y := wrongRows()[r.Intn(len(wrongRows()))]
		if e := x.Put(y); e == 0 || e != fault(y) {
			t.Fatalf("Put(%s): %d, want %d", show(y), e, fault(y))
		}
	case 5, 6:
		key := randomKey(r)
		_, there := m[key]
		if x.Delete(key) != there {
			t.Fatalf("Delete(%q): %v", key, !there)
		}
		delete(m, key)
	default: // a digest that is asked for between
		if x.Root() != m.levels(x.Depth())[0][0] {
			t.Fatalf("another Root of %s", show(m.rows()...))
		}
	}
}

// wrongRows may not be, by one part or by several.
func wrongRows() []api.Row {
	return []api.Row{
		{}, row("", "x", 1), row(long(1025), "x", 1), row("", long(65537), 0), row(long(1025), long(65537), -1),
		row("a", long(65537), 1), row("a", long(65537), 0), row("a", long(65537), top+1),
		row("a", "x", 0), row("a", "x", -1), row("a", "", top+1), row("a", "", -top), row("a", "", 1<<63-1), row("a", "", -1<<63),
	}
}
