package merkle_test

import (
	"math"
	"math/rand"
	"slices"
	"testing"

	"hawser/api"
	"hawser/merkle"
)

// P10.5, P10.9

func TestPathExamples(t *testing.T) {
	x := made(t, 1, row("a", "x", 1), row("\x11", "", 1))
	var want []api.Digest
	for i := range 16 {
		if i != 6 {
			d, _ := x.At(1, i)
			want = append(want, d)
		}
	}
	path, e := x.Path(6)
	if e != 0 || !slices.Equal(path, want) {
		t.Fatalf("Path(6): %d digests, %d", len(path), e)
	}
	leaf, _ := x.At(1, 6)
	for i, c := range []struct {
		bucket int
		leaf   api.Digest
		path   []api.Digest
		want   api.Errno
	}{
		{6, leaf, path, 0},
		{6, merkle.Leaf(), path, 102},
		{6, leaf, path[:14], 101},
		{6, leaf, path[1:], 101},
		{6, leaf, append(slices.Clone(path), leaf), 101},
		{16, leaf, path, 62},
		{-1, leaf, path, 62},
		{7, leaf, path, 102},
	} {
		if e := merkle.Verify(x.Root(), 1, c.bucket, c.leaf, c.path); e != c.want {
			t.Errorf("%d: %d, want %d", i, e, c.want)
		}
	}
}

// The path of every bucket of trees of each depth.
func TestEveryPath(t *testing.T) {
	for _, depth := range depths {
		for name, rows := range shapes(depth) {
			if depth == 3 && name != "everywhere" && name != "alike" {
				continue
			}
			x, levels := of(t, depth, rows...), modelOf(rows...).levels(depth)
			root := x.Root()
			for b := range wide(depth) {
				path, e := x.Path(b)
				if e != 0 || len(path) != 15*depth || !slices.Equal(path, pathIn(levels, b)) {
					t.Fatalf("%s, depth %d: Path(%d): %d digests, %d", name, depth, b, len(path), e)
				}
				leaf, _ := x.At(depth, b)
				if e := merkle.Verify(root, depth, b, leaf, path); e != 0 {
					t.Fatalf("%s, depth %d: Verify of bucket %d: %d", name, depth, b, e)
				}
			}
		}
	}
}

// No other digest, leaf, root or bucket is taken.
func TestVerifyOther(t *testing.T) {
	for _, depth := range depths {
		x := of(t, depth, everywhere(depth)...) // of which no two digests of a level are alike
		for _, b := range []int{0, 1, 6, 15, wide(depth) / 2, wide(depth) - 16, wide(depth) - 1} {
			path, _ := x.Path(b)
			leaf, _ := x.At(depth, b)
			for i := range path {
				for j := range 32 {
					other := slices.Clone(path)
					other[i][j] ^= 1 << (j % 8)
					if e := merkle.Verify(x.Root(), depth, b, leaf, other); e != 102 {
						t.Fatalf("depth %d, bucket %d: byte %d of digest %d is another one: %d", depth, b, j, i, e)
					}
				}
				other := slices.Clone(path)
				other[i], other[(i+1)%len(path)] = other[(i+1)%len(path)], other[i]
				if e := merkle.Verify(x.Root(), depth, b, leaf, other); e != 102 {
					t.Fatalf("depth %d, bucket %d: digest %d and the next one exchanged: %d", depth, b, i, e)
				}
			}
			for j := range 32 {
				d, root := leaf, x.Root()
				d[j] ^= 128
				root[j] ^= 1
				if e := merkle.Verify(x.Root(), depth, b, d, path); e != 102 {
					t.Fatalf("depth %d, bucket %d: another leaf: %d", depth, b, e)
				}
				if e := merkle.Verify(root, depth, b, leaf, path); e != 102 {
					t.Fatalf("depth %d, bucket %d: another root: %d", depth, b, e)
				}
			}
			for c := 0; c < wide(depth); c += 1 + wide(depth)/300 {
				want := api.Errno(102)
				if c == b {
					want = 0
				}
				if e := merkle.Verify(x.Root(), depth, c, leaf, path); e != want {
					t.Fatalf("depth %d: the path of %d for %d: %d", depth, b, c, e)
				}
			}
		}
	}
}

// Where buckets are alike, a path of the one is one of the other: Verify tells what the digests say, no more.
func TestVerifyWords(t *testing.T) {
	r := rand.New(rand.NewSource(106))
	seen := map[api.Errno]int{}
	for range 400 {
		depth := 1 + r.Intn(3)
		x := of(t, depth, randomRows(r, r.Intn(6))...)
		b, c := r.Intn(wide(depth)), r.Intn(wide(depth))
		if r.Intn(2) == 0 {
			c = b ^ r.Intn(16)
		}
		path, _ := x.Path(b)
		leaf, _ := x.At(depth, c)
		want := api.Errno(102)
		if leads(c, leaf, path) == x.Root() {
			want = 0
		}
		if e := merkle.Verify(x.Root(), depth, c, leaf, path); e != want {
			t.Fatalf("depth %d, %d for %d: %d, want %d", depth, b, c, e, want)
		}
		seen[want]++
		// Of anything at all there is a root that it leads to, and no other one.
		for i := range path {
			r.Read(path[i][:])
		}
		r.Read(leaf[:])
		root := leads(c, leaf, path)
		if e := merkle.Verify(root, depth, c, leaf, path); e != 0 {
			t.Fatalf("depth %d: a path of anything: %d", depth, e)
		}
		root[0]++
		if e := merkle.Verify(root, depth, c, leaf, path); e != 102 {
			t.Fatalf("depth %d: a path of anything, and another root: %d", depth, e)
		}
	}
	if seen[0] < 20 || seen[102] < 20 {
		t.Errorf("%v", seen)
	}
}

// Of several faults the first one is told.
func TestVerifyFirstFault(t *testing.T) {
	paths := [][]api.Digest{nil, {}}
	for _, n := range []int{1, 14, 15, 16, 29, 30, 31, 44, 45, 46, 60, 75} {
		paths = append(paths, make([]api.Digest, n))
	}
	buckets := []int{math.MinInt, -4096, -1, 0, 6, 15, 16, 17, 255, 256, 4095, 4096, math.MaxInt}
	for _, depth := range []int{math.MinInt, -1, 0, 1, 2, 3, 4, 5, math.MaxInt/15 + 1, math.MaxInt} {
		for _, b := range buckets {
			for _, path := range paths {
				want := api.Errno(102)
				switch {
				case depth < 1 || depth > 3:
					want = 61
				case b < 0 || b >= wide(depth):
					want = 62
				case len(path) != 15*depth:
					want = 101
				}
				if e := merkle.Verify(api.Digest{}, depth, b, api.Digest{}, path); e != want {
					t.Errorf("depth %d, bucket %d, %d digests: %d, want %d", depth, b, len(path), e, want)
				}
				if want != 102 {
					continue
				}
				if e := merkle.Verify(leads(b, api.Digest{}, path), depth, b, api.Digest{}, path); e != 0 {
					t.Errorf("depth %d, bucket %d, zeros: %d", depth, b, e)
				}
			}
		}
	}
	// A root that would be right does not help a path of another length, nor another bucket.
	x := made(t, 2, alike()...)
	path, _ := x.Path(97)
	leaf, _ := x.At(2, 97)
	up, _ := x.At(1, 6)
	if e := merkle.Verify(up, 2, 97, leaf, path[:15]); e != 101 {
		t.Errorf("half of a path: %d", e)
	}
	if e := merkle.Verify(up, 1, 97, leaf, path[:15]); e != 62 {
		t.Errorf("half of a path, of depth 1: %d", e)
	}
	if e := merkle.Verify(up, 1, 97%16, leaf, path[:15]); e != 0 {
		t.Errorf("the lower half, as a tree of its own: %d", e)
	}
	if e := merkle.Verify(x.Root(), 1, 6, up, path[15:]); e != 0 {
		t.Errorf("the upper half: %d", e)
	}
}
