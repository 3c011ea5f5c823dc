package probe_test

import (
	"math"
	"math/rand"
	"slices"
	"testing"

	"hawser/api"
	"hawser/merkle"
	"hawser/probe"
)

// The errors' numbers, and the limit.
func TestNumbers(t *testing.T) {
	for _, c := range []struct {
		name string
		is   int
		want int
	}{
		{"ErrProbeAsk", int(api.ErrProbeAsk), errAsk}, {"ErrProbeCount", int(api.ErrProbeCount), errCount}, {"ErrProbeOver", int(api.ErrProbeOver), errOver},
		{"ErrMerklePlace", int(api.ErrMerklePlace), errPlace}, {"ErrArg", int(api.ErrArg), errArg}, {"ErrMade", int(api.ErrMade), errMade},
		{"MaxAsk", api.MaxAsk, 64}, {"MaxDepth", api.MaxDepth, 3}, {"Fan", api.Fan, 16},
	} {
		if c.is != c.want {
			t.Errorf("%s is %d", c.name, c.is)
		}
	}
}

// P11.1

func answers(t *testing.T, x *merkle.Tree, s says, level int, nodes ...int) {
	t.Helper()
	d, e := probe.Answer(x, level, nodes...)
	if e != 0 || !slices.Equal(d, s.all(level, nodes)) {
		t.Fatalf("Answer(%d, %v): %d digests, %d", level, nodes, len(d), e)
	}
}

func answersNot(t *testing.T, x *merkle.Tree, want api.Errno, level int, nodes ...int) {
	t.Helper()
	if d, e := probe.Answer(x, level, nodes...); e != want || len(d) != 0 {
		t.Fatalf("Answer(%d, %v) of depth %d: %d digests, %d; want %d", level, nodes, x.Depth(), len(d), e, want)
	}
}

func TestAnswerExamples(t *testing.T) {
	x := made(t, 1)
	answersNot(t, x, errPlace, 2, 0)
	answersNot(t, x, errArg, 1, 3, 3)
	answersNot(t, x, errArg, 1)
}

// Every node of every level: alone, and as many in one question as may be.
func TestAnswer(t *testing.T) {
	for _, depth := range depths {
		for _, x := range []*merkle.Tree{made(t, depth), of(t, depth, inBuckets(depth, everyBucket(depth)...)...), made(t, depth, row("a", "x", 1), row("\xff", "", 2))} {
			s := by(x)
			for level := range depth + 1 {
				for i := range wide(level) {
					answers(t, x, s, level, i)
				}
				for nodes := range slices.Chunk(count(0, wide(level)), 64) {
					answers(t, x, s, level, nodes...)
				}
				for nodes := range slices.Chunk(count(0, wide(level)), 63) {
					answers(t, x, s, level, nodes...)
				}
				answers(t, x, s, level, slices.Compact([]int{0, wide(level) / 2, wide(level) - 1})...)
			}
		}
	}
}

// The digests are the tree's at the time, whatever was done ahead of it.
func TestAnswerOfChanges(t *testing.T) {
	r := rand.New(rand.NewSource(11))
	for _, depth := range depths {
		x := made(t, depth)
		for range 40 {
			b := r.Intn(wide(depth))
			if r.Intn(3) == 0 {
				x.Delete(inBucket(depth, b).Key)
			} else {
				put(t, x, inBucket(depth, b))
			}
			d, e := probe.Answer(x, depth, b) // ahead of any other question
			rows, _ := x.Rows(b)
			if e != 0 || len(d) != 1 || d[0] != merkle.Leaf(rows...) {
				t.Fatalf("depth %d, bucket %d: %x, %d", depth, b, d, e)
			}
			answers(t, x, by(x), 0, 0)
		}
	}
}

// Some nodes of a level, in their order.
func TestAnswerRandom(t *testing.T) {
	r := rand.New(rand.NewSource(12))
	for _, depth := range depths {
		x := of(t, depth, inBuckets(depth, everyBucket(depth)...)...)
		s := by(x)
		for range 60 {
			level := r.Intn(depth + 1)
			nodes := r.Perm(wide(level))
			nodes = nodes[:1+r.Intn(min(64, len(nodes)))]
			slices.Sort(nodes)
			answers(t, x, s, level, nodes...)
		}
	}
}

func TestAnswerPlaces(t *testing.T) {
	for _, depth := range depths {
		x := made(t, depth, row("a", "x", 1))
		for _, level := range []int{math.MinInt, -2, -1, depth + 1, depth + 2, 4, 64, math.MaxInt} {
			answersNot(t, x, errPlace, level, 0)
			answersNot(t, x, errPlace, level, -1)
			answersNot(t, x, errPlace, level, count(0, 64)...)
		}
		for level := range depth + 1 {
			end := wide(level)
			answers(t, x, by(x), level, end-1)
			for _, nodes := range [][]int{
				{-1}, {end}, {end + 1}, {math.MinInt}, {math.MaxInt}, {-1, 0}, {0, end}, {0, math.MaxInt}, {math.MinInt, 0}, {-2, -1}, {end, end + 1},
				{math.MinInt, math.MaxInt}, {end - 1, end}, count(-1, 64), count(end-63, 64), count(-64, 64), count(end, 64),
			} {
				answersNot(t, x, errPlace, level, nodes...)
			}
		}
	}
}

func TestAnswerLists(t *testing.T) {
	for _, depth := range depths {
		x := made(t, depth, row("a", "x", 1))
		for level := range depth + 1 {
			end := wide(level)
			for _, nodes := range [][]int{
				nil, {}, {0, 0}, {end - 1, end - 1}, {1, 0}, {0, 1, 1}, {0, 2, 1}, {2, 0, 1}, {0, 0, 1}, {0, 1, 2, 3, 3}, {5, 4, 3}, {0, 3, 2, 4}, make([]int, 64),
				append(count(0, 63), 62), append(count(0, 63), 0), append([]int{1}, count(1, 63)...), append([]int{63}, count(0, 63)...),
				count(0, 65), count(0, 66), count(0, 128), count(0, 4096), make([]int, 65), append(count(0, 64), 63),
			} {
				answersNot(t, x, errArg, level, nodes...)
			}
		}
	}
	x := made(t, 3)
	answers(t, x, by(x), 3, count(0, 64)...)
	answers(t, x, by(x), 2, count(192, 64)...)
	answersNot(t, x, errArg, 3, count(0, 65)...)
	answersNot(t, x, errArg, 3, make([]int, 1<<20)...)
}

// Of several faults the first one: no tree, then the list, then the places.
func TestAnswerFirst(t *testing.T) {
	for _, depth := range depths {
		x := made(t, depth)
		for _, level := range []int{-1, depth + 1, math.MaxInt, math.MinInt} {
			for _, nodes := range [][]int{nil, {3, 3}, {1, 0}, {-1, -1}, {-1, -2}, count(0, 65), count(-3, 65), {math.MaxInt, math.MinInt}} {
				answersNot(t, x, errArg, level, nodes...)
				answersNot(t, nil, errMade, level, nodes...)
			}
			answersNot(t, nil, errMade, level, 0)
		}
		for _, nodes := range [][]int{{-1, -1}, {-1, 0, 0}, {0, 5000, 5000}, {5000, 0}, {0, -1}, count(-1, 65), count(4090, 65)} {
			answersNot(t, x, errArg, depth, nodes...)
		}
	}
}

// P11.4

func TestBound(t *testing.T) {
	for _, c := range []struct {
		depth, unlike, want int
		err                 api.Errno
	}{
		{1, 1, 17, 0}, {3, 1, 49, 0}, {2, 256, 273, 0}, {2, 257, 0, errArg},
		{1, 0, 1, 0}, {2, 0, 1, 0}, {3, 0, 1, 0}, {1, 2, 17, 0}, {1, 16, 17, 0}, {2, 1, 33, 0}, {2, 2, 49, 0}, {2, 16, 273, 0}, {2, 17, 273, 0},
		{3, 2, 81, 0}, {3, 16, 529, 0}, {3, 17, 545, 0}, {3, 256, 4369, 0}, {3, 257, 4369, 0}, {3, 4096, 4369, 0},
		{1, 17, 0, errArg}, {3, 4097, 0, errArg}, {1, -1, 0, errArg}, {2, -1, 0, errArg}, {3, -1, 0, errArg},
		{0, 0, 0, errArg}, {0, 1, 0, errArg}, {4, 0, 0, errArg}, {4, 1, 0, errArg}, {4, 65536, 0, errArg}, {-1, 0, 0, errArg}, {-1, 1, 0, errArg},
		{math.MinInt, 0, 0, errArg}, {math.MaxInt, 0, 0, errArg}, {1, math.MinInt, 0, errArg}, {3, math.MaxInt, 0, errArg}, {3, math.MinInt, 0, errArg}, {math.MaxInt, math.MaxInt, 0, errArg},
	} {
		if n, e := probe.Bound(c.depth, c.unlike); n != c.want || e != c.err {
			t.Errorf("Bound(%d, %d): %d, %d; want %d, %d", c.depth, c.unlike, n, e, c.want, c.err)
		}
	}
}

func TestBoundOfAll(t *testing.T) {
	for _, depth := range depths {
		for unlike := range wide(depth) + 1 {
			want := 1
			for level := range depth {
				want += 16 * min(unlike, wide(level))
			}
			if n, e := probe.Bound(depth, unlike); n != want || e != 0 {
				t.Fatalf("Bound(%d, %d): %d, %d; want %d", depth, unlike, n, e, want)
			}
		}
	}
}
