package sender_test

import (
	"fmt"
	"math"
	"math/rand"
	"slices"
	"testing"

	"hawser/api"
	"hawser/image"
	"hawser/message"
	"hawser/sender"
)

func sameChunk(a, b api.Chunk) bool {
	return a.Index == b.Index && a.Last == b.Last && slices.EqualFunc(a.Pieces, b.Pieces, func(a, b api.Piece) bool {
		return a.Bucket == b.Bucket && a.First == b.First && a.Last == b.Last && slices.Equal(a.Rows, b.Rows)
	})
}

// outline tells chunks without their texts.
func outline(l []api.Chunk) string {
	s := ""
	for _, c := range l {
		s += fmt.Sprintf("%d %v:", c.Index, c.Last)
		for _, p := range c.Pieces {
			s += fmt.Sprintf(" {%d %v %v %d}", p.Bucket, p.First, p.Last, len(p.Rows))
		}
		s += "; "
	}
	return s
}

// cuts holds Cut against the chapter's words, and what follows of them.
func cuts(t *testing.T, s api.State, depth, bytes int, buckets ...int) []api.Chunk {
	t.Helper()
	l, e := sender.Cut(s, depth, bytes, buckets...)
	want := cutting(s, depth, bytes, buckets)
	if e != 0 || !slices.EqualFunc(l, want, sameChunk) {
		t.Fatalf("Cut(%d rows, %d, %d, %v): %.600s, %d, want %.600s", len(s.Rows), depth, bytes, buckets, outline(l), e, outline(want))
	}
	follows(t, s, depth, bytes, buckets, l)
	return l
}

// follows: P17.7.
func follows(t *testing.T, s api.State, depth, bytes int, buckets []int, l []api.Chunk) {
	t.Helper()
	var laid []api.Row
	var named []int
	whole := true
	for i, c := range l {
		w, n := weightOf(c)
		if w > bytes && n != 1 {
			t.Fatalf("chunk %d: %d rows weigh %d", i, n, w)
		}
		if c.Index != i || c.Last != (i == len(l)-1) {
			t.Fatalf("chunk %d: %d, %v", i, c.Index, c.Last)
		}
		m := api.Msg{Kind: api.KindChunk, From: 1, To: 2, Attempt: 1, Chunk: c}
		if e := message.Check(m); w <= api.MaxChunk && e != 0 {
			t.Fatalf("chunk %d may not be: %d", i, e)
		}
		for _, p := range c.Pieces {
			if p.First != whole {
				t.Fatalf("chunk %d: a piece of bucket %d, First %v", i, p.Bucket, p.First)
			}
			if p.First {
				named = append(named, p.Bucket)
			} else if named[len(named)-1] != p.Bucket {
				t.Fatalf("chunk %d: a piece of bucket %d goes on with %d", i, named[len(named)-1], p.Bucket)
			}
			whole = p.Last
			laid = append(laid, p.Rows...)
		}
	}
	var inside []api.Row
	for _, r := range s.Rows {
		if slices.Contains(buckets, digits(depth, r.Key)) {
			inside = append(inside, r)
		}
	}
	if !whole || !slices.Equal(named, buckets) || !slices.Equal(laid, inside) {
		t.Fatalf("buckets %v, want %v; %d rows, want %d", named, buckets, len(laid), len(inside))
	}
}

// The chapter's first example.
func TestCutExample(t *testing.T) {
	s := two().State()
	a, b := api.Row{Key: "a", Value: "x", Version: 1}, api.Row{Key: "b", Value: "y", Version: 2}
	l := cuts(t, s, 1, 64, 6)
	if want := (api.Chunk{Last: true, Pieces: []api.Piece{{Bucket: 6, First: true, Last: true, Rows: []api.Row{a, b}}}}); len(l) != 1 || !sameChunk(l[0], want) {
		t.Errorf("bucket 6: %v", l)
	}
	session := api.Row{Key: "\x00s\x01", Value: "\x02\x01\x02", Version: 2}
	l = cuts(t, s, 1, 64, 0, 6)
	want := api.Chunk{Last: true, Pieces: []api.Piece{
		{Bucket: 0, First: true, Last: true, Rows: []api.Row{session}},
		{Bucket: 6, First: true, Last: true, Rows: []api.Row{a, b}},
	}}
	if len(l) != 1 || !sameChunk(l[0], want) {
		t.Errorf("buckets 0 and 6: %v", l)
	}
}

// A chunk is full at just its bytes: with one more the row goes into the next one.
func TestCutEdge(t *testing.T) {
	row := func(key string, w int) api.Row { return api.Row{Key: key, Value: long(w - 17), Version: 1} }
	for _, c := range []struct {
		weights []int
		bytes   int
		want    string
	}{
		{[]int{32, 32}, 64, "0 true: {6 true true 2}; "},
		{[]int{32, 33}, 64, "0 false: {6 true false 1}; 1 true: {6 false true 1}; "},
		{[]int{33, 32}, 64, "0 false: {6 true false 1}; 1 true: {6 false true 1}; "},
		{[]int{65}, 64, "0 true: {6 true true 1}; "},
		{[]int{64, 17}, 64, "0 false: {6 true false 1}; 1 true: {6 false true 1}; "},
		{[]int{17, 64}, 64, "0 false: {6 true false 1}; 1 true: {6 false true 1}; "},
		{[]int{900, 900, 17}, 64, "0 false: {6 true false 1}; 1 false: {6 false false 1}; 2 true: {6 false true 1}; "},
		{[]int{17, 17, 17, 17}, 64, "0 false: {6 true false 3}; 1 true: {6 false true 1}; "},
		{[]int{21, 21, 22, 21, 21, 22}, 64, "0 false: {6 true false 3}; 1 true: {6 false true 3}; "},
		{[]int{21, 21, 23, 21, 20, 65, 17}, 64, "0 false: {6 true false 2}; 1 false: {6 false false 3}; 2 false: {6 false false 1}; 3 true: {6 false true 1}; "},
		{[]int{50, 50}, 99, "0 false: {6 true false 1}; 1 true: {6 false true 1}; "},
		{[]int{50, 50}, 100, "0 true: {6 true true 2}; "},
		{[]int{17 + 65536, 17 + 65536, 17 + 65536, 262144 - 3*65553}, 262144, "0 true: {6 true true 4}; "},
		{[]int{17 + 65536, 17 + 65536, 17 + 65536, 262145 - 3*65553}, 262144, "0 false: {6 true false 3}; 1 true: {6 false true 1}; "},
	} {
		s := api.State{Seq: 1}
		for i, w := range c.weights {
			s.Rows = append(s.Rows, row(string([]byte{byte('a' + i)}), w))
		}
		if got := outline(cuts(t, s, 1, c.bytes, 6)); got != c.want {
			t.Errorf("%v, %d: %s, want %s", c.weights, c.bytes, got, c.want)
		}
	}
}

// Buckets without rows are pieces of the chunk at hand, wherever they stand; a chunk of such ones alone takes any row.
func TestCutEmptyBuckets(t *testing.T) {
	for _, c := range []struct {
		rows    []api.Row
		buckets []int
		want    string
	}{
		{nil, []int{3}, "0 true: {3 true true 0}; "},
		{nil, all(1)[:3], "0 true: {0 true true 0} {1 true true 0} {2 true true 0}; "},
		{[]api.Row{{Key: "a", Value: long(100), Version: 1}}, []int{0, 6, 7}, "0 true: {0 true true 0} {6 true true 1} {7 true true 0}; "},
		{[]api.Row{{Key: "a", Value: long(100), Version: 1}}, []int{7, 8}, "0 true: {7 true true 0} {8 true true 0}; "},
		{[]api.Row{{Key: "a", Value: long(40), Version: 1}, {Key: "q", Value: long(40), Version: 1}}, []int{6, 7}, "0 false: {6 true true 1}; 1 true: {7 true true 1}; "},
		{[]api.Row{{Key: "a", Value: long(40), Version: 1}, {Key: "\xf0", Value: long(40), Version: 1}}, []int{5, 6, 9, 14, 15}, "0 false: {5 true true 0} {6 true true 1} {9 true true 0} {14 true true 0}; 1 true: {15 true true 1}; "},
		{[]api.Row{{Key: "\xff", Version: 1}, {Key: "\xff\xff", Version: 1}}, []int{15}, "0 true: {15 true true 2}; "},
	} {
		if got := outline(cuts(t, api.State{Seq: 1, Rows: c.rows}, 1, 64, c.buckets...)); got != c.want {
			t.Errorf("%v: %s, want %s", c.buckets, got, c.want)
		}
	}
}

func TestCutNothing(t *testing.T) {
	for _, s := range []api.State{{}, {Seq: top}, two().State(), {Seq: 5, Rows: rows(300, 30)}} {
		for depth := 1; depth <= 3; depth++ {
			if l, e := sender.Cut(s, depth, 64); e != 0 || len(l) != 0 {
				t.Errorf("no buckets: %d, %d", len(l), e)
			}
			if l, e := sender.Cut(s, depth, 64, []int{}...); e != 0 || len(l) != 0 {
				t.Errorf("an empty list of buckets: %d, %d", len(l), e)
			}
		}
	}
}

// All buckets at once, of each depth: 4096 pieces are in one chunk where there are no rows.
func TestCutAll(t *testing.T) {
	for depth := 1; depth <= 3; depth++ {
		if l := cuts(t, api.State{}, depth, 64, all(depth)...); len(l) != 1 || len(l[0].Pieces) != 1<<(4*depth) {
			t.Errorf("depth %d, no rows: %d chunks", depth, len(l))
		}
		s := api.State{Seq: 5, Rows: rows(500, 60)}
		for _, bytes := range []int{64, 65, 100, 1000, 4096, 1 << 18} {
			cuts(t, s, depth, bytes, all(depth)...)
		}
	}
}

func TestCutAtRandom(t *testing.T) {
	for seed := range 400 {
		r := rand.New(rand.NewSource(int64(seed)))
		s := api.State{Seq: 5, Rows: rows(r.Intn(120), pick(r, 0, 5, 30, 60, 300))}
		depth := 1 + r.Intn(3)
		cuts(t, s, depth, pick(r, 64, 64+r.Intn(100), 64+r.Intn(1000)), some(r, depth, pick(r, 1, 2, 5, 16, 100, 4096))...)
	}
}

// Keys at the ends of buckets.
func TestCutEnds(t *testing.T) {
	s := api.State{Seq: 1}
	for _, key := range []string{"\x00", "\x00\x00", "\x0f\xff\xff", "\x10", "\x10\x00", "\x1f\xff", "\x5f\xff\xff\xff", "\x60", "\x60\x00", "\x60\xff", "\x61", "\x6f\xff", "\x70", "\xef\xff", "\xf0", "\xff\xef", "\xff\xf0", "\xff\xff", "\xff\xff\xff"} {
		s.Rows = append(s.Rows, api.Row{Key: key, Value: "v", Version: 1})
	}
	for depth := 1; depth <= 3; depth++ {
		for b := range 1 << (4 * depth) {
			cuts(t, s, depth, 64, b)
		}
		for b := range 1<<(4*depth) - 2 {
			cuts(t, s, depth, 64, b, b+2)
		}
	}
}

// refusals: what Cut was given has these faults; the answer is the first one of the chapter's order.
func TestCutRefuses(t *testing.T) {
	states := map[api.Errno][]api.State{
		0: {{}, two().State(), {Seq: 5, Rows: rows(50, 30)}},
		errState: {
			{Seq: -1}, {Seq: top + 1}, {Seq: math.MinInt}, {Seq: math.MaxInt},
			{Seq: 1, Rows: []api.Row{{Key: "a", Version: 2}}},
			{Seq: 1, Rows: []api.Row{{Key: "a", Version: 0}}},
			{Seq: 1, Rows: []api.Row{{Key: "", Version: 1}}},
			{Seq: 1, Rows: []api.Row{{Key: long(1025), Version: 1}}},
			{Seq: 1, Rows: []api.Row{{Key: "a", Value: long(65537), Version: 1}}},
			{Seq: 1, Rows: []api.Row{{Key: "b", Version: 1}, {Key: "a", Version: 1}}},
			{Seq: 1, Rows: []api.Row{{Key: "a", Version: 1}, {Key: "a", Version: 1}}},
		},
		errLong: {heavy()},
	}
	depths := []int{math.MinInt, -1, 0, 1, 2, 3, 4, math.MaxInt}
	sizes := []int{math.MinInt, -1, 0, 63, 64, 1 << 18, 1<<18 + 1, math.MaxInt}
	lists := [][]int{{}, {0}, {15}, {16}, {255}, {256}, {4095}, {4096}, {-1}, {math.MinInt}, {math.MaxInt}, {1, 1}, {2, 1}, {1, 2}, {1, 2, 2}, {1, 3, 2}, {0, 15, 16}, {0, 255, 256}, {0, 4095, 4096}, {-1, 0}, {5, -1}, {15, 14, 13}}
	for wrong, l := range states {
		for _, s := range l {
			if e := image.Check(s); e != wrong {
				t.Fatalf("a state of the test: %d, want %d", e, wrong)
			}
			for _, depth := range depths {
				for _, bytes := range sizes {
					for _, buckets := range lists {
						refuses(t, s, wrong, depth, bytes, buckets)
					}
				}
			}
		}
	}
}

// heavy is a state whose image would be too long: 4096 rows with the longest of values.
func heavy() api.State {
	s := api.State{Seq: 5}
	value := long(65536)
	for _, r := range rows(4096, 0) {
		s.Rows = append(s.Rows, api.Row{Key: r.Key, Value: value, Version: 1})
	}
	return s
}

func refuses(t *testing.T, s api.State, wrong api.Errno, depth, bytes int, buckets []int) {
	t.Helper()
	want := wrong
	if want == 0 && (depth < 1 || depth > 3) {
		want = errDepth
	}
	if want == 0 && (bytes < 64 || bytes > 262144) {
		want = errArg
	}
	for i, b := range buckets {
		if want == 0 && (b < 0 || b >= 1<<(4*depth) || i > 0 && b <= buckets[i-1]) {
			want = errWant
		}
	}
	if want == 0 {
		cuts(t, s, depth, bytes, buckets...)
		return
	}
	if l, e := sender.Cut(s, depth, bytes, buckets...); e != want || len(l) != 0 {
		t.Fatalf("Cut(%d rows, %d, %d, %v): %d, %d, want %d", len(s.Rows), depth, bytes, buckets, len(l), e, want)
	}
}
