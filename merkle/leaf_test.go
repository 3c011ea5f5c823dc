package merkle_test

import (
	"math/rand"
	"reflect"
	"slices"
	"testing"

	"hawser/api"
	"hawser/merkle"
	"hawser/pack"
	"hawser/sha"
)

func TestNumbers(t *testing.T) {
	errors := []api.Errno{
		api.OK, api.ErrArg, api.ErrMade, api.ErrFull, api.ErrSpanDepth, api.ErrSpanBucket,
		api.ErrTableKey, api.ErrTableValue, api.ErrTableVersion, api.ErrMerklePlace, api.ErrMerklePath, api.ErrMerkleRoot,
	}
	if !slices.Equal(errors, []api.Errno{0, 1, 2, 3, 61, 62, 70, 71, 72, 100, 101, 102}) {
		t.Errorf("errors: %v", errors)
	}
	limits := []int{api.Fan, api.MaxDepth, api.MaxKey, api.MaxValue, api.MaxRows, api.MaxSeq}
	if !slices.Equal(limits, []int{16, 3, 1024, 65536, 1048576, top}) {
		t.Errorf("limits: %v", limits)
	}
}

// A tree has the chapter's calls alone, and nothing of it lies open.
func TestFace(t *testing.T) {
	var names []string
	for m := range reflect.TypeOf(&merkle.Tree{}).Methods() {
		names = append(names, m.Name)
	}
	slices.Sort(names)
	if !slices.Equal(names, []string{"At", "Delete", "Depth", "Differ", "Len", "Path", "Put", "Root", "Rows", "Snapshot"}) {
		t.Errorf("%q", names)
	}
	for f := range reflect.TypeOf(merkle.Tree{}).Fields() {
		if f.IsExported() {
			t.Errorf("%s lies open", f.Name)
		}
	}
}

// P10.1

const noRows = "6e340b9cffb37a989ca544e6bb780a2c78901d3fb33738768511a30617afa01d"

func TestLeafExamples(t *testing.T) {
	for _, d := range []api.Digest{merkle.Leaf(), merkle.Leaf([]api.Row{}...), merkle.Leaf([]api.Row(nil)...), sum("\x00")} {
		if sha.Print(d) != noRows {
			t.Errorf("Leaf of no rows: %s", sha.Print(d))
		}
	}
	if merkle.Leaf(row("a", "x", 1)) != sum("\x00\x01a\x01x\x01") {
		t.Error("Leaf of a row")
	}
}

// leafHolds holds a Leaf against the chapter's words.
func leafHolds(t *testing.T, rows ...api.Row) {
	t.Helper()
	if merkle.Leaf(rows...) != leafOf(rows...) {
		t.Fatalf("Leaf(%s)", show(rows...))
	}
}

// Each part at its edges, with each other one at its edges.
func TestLeafEdges(t *testing.T) {
	var l []api.Row
	for _, key := range []string{"", "\x00", "k", "\xff\xff", long(127), long(128), long(1024), long(1025), long(16383), long(16384), long(70000)} {
		for _, value := range []string{"", "\x00", "v", "\xff", long(127), long(128), long(65536), long(65537), long(1 << 21)} {
			l = append(l, row(key, value, 1))
		}
	}
	for bits := range 64 {
		v := 1 << bits
		l = append(l, row("k", "v", v), row("k", "v", v-1), row("k", "v", v+1), row("k", "v", -v), row("", "", -v-1))
	}
	l = append(l, wrongRows()...)
	for _, r := range l {
		leafHolds(t, r)
		leafHolds(t, row("a", "b", 1), r, row("c", "d", 2))
	}
	if merkle.Leaf(row("k", "", -1)) != sum("\x00\x01k\x00\xff\xff\xff\xff\xff\xff\xff\xff\xff\x01") {
		t.Error("a version of -1")
	}
	if merkle.Leaf(row("k", "", -1<<63)) != sum("\x00\x01k\x00\x80\x80\x80\x80\x80\x80\x80\x80\x80\x01") {
		t.Error("the least version")
	}
	if merkle.Leaf(api.Row{}) != sum("\x00\x00\x00\x00") {
		t.Error("a row of zeros")
	}
}

// Rows in any order, and as often as one likes.
func TestLeafOrder(t *testing.T) {
	a, b, c := row("a", "x", 1), row("b", "y", 2), row("c", "z", 3)
	lists := [][]api.Row{{}, {a}, {b}, {a, b}, {b, a}, {a, a}, {a, b, c}, {a, c, b}, {b, a, c}, {b, c, a}, {c, a, b}, {c, b, a}, {a, a, a}}
	seen := map[api.Digest]int{}
	for i, l := range lists {
		leafHolds(t, l...)
		seen[merkle.Leaf(l...)] = i
	}
	if len(seen) != len(lists) {
		t.Error("unlike rows with one digest")
	}
	r := rand.New(rand.NewSource(101))
	for n := range 200 {
		l := make([]api.Row, n)
		for i := range l {
			l[i] = randomRow(r)
		}
		leafHolds(t, l...)
	}
	leafHolds(t, crowd(5000)...)
}

// A row's bytes are those that pack lays down, for each row that it takes.
func TestLeafByPack(t *testing.T) {
	for _, rows := range shapes(2) {
		var w pack.Writer
		for _, r := range rows {
			w.Row(r)
		}
		b, e := w.Bytes()
		if e != 0 || merkle.Leaf(rows...) != sha.Sum([]byte{0}, b) {
			t.Errorf("%s: %d", show(rows...), e)
		}
	}
}

// What stands in one part does not look like what stands in another one.
func TestLeafUnlike(t *testing.T) {
	seen := map[api.Digest]api.Row{}
	for _, key := range []string{"", "a", "aa", "aaa", "b", "\x01a"} {
		for _, value := range []string{"", "a", "aa", "b", "\x01", "\x01a\x01"} {
			for _, version := range []int{-1, 0, 1, 2, 97, 128, top} {
				r := row(key, value, version)
				d := merkle.Leaf(r)
				if other, there := seen[d]; there {
					t.Errorf("%s and %s", show(other), show(r))
				}
				seen[d] = r
			}
		}
	}
}

func TestNode(t *testing.T) {
	var zeros, like, rising, random [16]api.Digest
	r := rand.New(rand.NewSource(102))
	for i := range 16 {
		like[i] = merkle.Leaf()
		rising[i] = api.Digest{31: byte(i)}
		r.Read(random[i][:])
	}
	for i, l := range [][16]api.Digest{zeros, like, rising, random} {
		if merkle.Node(l) != nodeOf(l[:]) {
			t.Errorf("Node of list %d", i)
		}
	}
	// Every byte of every digest counts, and where it stands.
	for _, l := range [][16]api.Digest{zeros, like, random} {
		seen := map[api.Digest]int{merkle.Node(l): -1}
		for i := range 16 {
			for j := range 32 {
				c := l
				c[i][j] ^= 1
				if merkle.Node(c) != nodeOf(c[:]) {
					t.Fatalf("byte %d of digest %d", j, i)
				}
				seen[merkle.Node(c)] = i
			}
		}
		if len(seen) != 1+16*32 {
			t.Error("unlike digests with one above them")
		}
	}
	for i := range 15 {
		c := random
		c[i], c[i+1] = c[i+1], c[i]
		if merkle.Node(c) == merkle.Node(random) {
			t.Errorf("%d and the next one exchanged", i)
		}
	}
}
