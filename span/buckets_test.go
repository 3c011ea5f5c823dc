package span_test

import (
	"fmt"
	"math"
	"math/rand"
	"slices"
	"strings"
	"testing"

	"hawser/api"
	"hawser/span"
)

var wrongDepths = []int{0, 4, -1, -2, -3, 5, 16, 64, 1 << 20, math.MaxInt, math.MinInt}

// wrongBuckets: of a depth that may be.
func wrongBuckets(depth int) []int {
	n := bucketsOf(depth)
	return []int{-1, n, n + 1, -n, 16 * n, 1 << 16, 1 << 32, 1 << 60, math.MaxInt, math.MinInt}
}

// keysAt: keys at the edges of buckets, and of a key's length.
func keysAt() []string {
	keys := []string{"a", "ab", "a\x00", "a\x00b", "a\x10", "a\x0f\xff", "\x00", "\x00\x00", "\x00\x0f", "\x00\x10", "\x01", "\x0f\xff", "\x10", "\xf0", "\xff", "\xff\xef", "\xff\xf0", "\xff\xff", "\xff\xff\xff"}
	for _, n := range []int{2, 1023, 1024} {
		for _, c := range []string{"\x00", "\x01", "\x10", "a", "\xff"} {
			keys = append(keys, strings.Repeat(c, n))
		}
	}
	return keys
}

func mustBucket(t *testing.T, depth int, key string) int {
	t.Helper()
	b, err := span.Bucket(depth, key)
	if err != api.OK {
		t.Fatalf("Bucket(%d, %.9q): %d", depth, key, err)
	}
	return b
}

func mustOf(t *testing.T, depth, bucket int) api.Range {
	t.Helper()
	r, err := span.Of(depth, bucket)
	if err != api.OK {
		t.Fatalf("Of(%d, %d): %d", depth, bucket, err)
	}
	return r
}

func mustBuckets(t *testing.T, depth int, l []api.Range) []int {
	t.Helper()
	got, err := span.Buckets(depth, l...)
	if err != api.OK {
		t.Fatalf("Buckets(%d): %d", depth, err)
	}
	return got
}

func mustRanges(t *testing.T, depth int, buckets []int) []api.Range {
	t.Helper()
	got, err := span.Ranges(depth, buckets...)
	if err != api.OK {
		t.Fatalf("Ranges(%d): %d", depth, err)
	}
	return got
}

// P6.4, the chapter's fifth example and edges.
func TestBucket(t *testing.T) {
	long := strings.Repeat("a", 1025)
	for _, c := range []struct {
		depth int
		key   string
		want  int
		err   api.Errno
	}{
		{1, "a", 6, 0},
		{2, "a", 97, 0},
		{3, "a", 1552, 0},
		{3, "ab", 1558, 0},
		{0, "a", 0, 61},
		{1, "", 0, 60},
		{1, "\x00", 0, 0},
		{2, "\x00", 0, 0},
		{3, "\x00", 0, 0},
		{3, "\x00\x0f", 0, 0},
		{3, "\x00\x10", 1, 0},
		{1, "\x0f\xff", 0, 0},
		{2, "\x0f\xff", 15, 0},
		{3, "\x0f\xff", 255, 0},
		{1, "\xff", 15, 0},
		{2, "\xff", 255, 0},
		{3, "\xff", 4080, 0},
		{3, "\xff\xef", 4094, 0},
		{3, "\xff\xf0", 4095, 0},
		{3, "\x12\x34\x56", 0x123, 0},
		{2, "\x12\x34\x56", 0x12, 0},
		{1, "\x12\x34\x56", 1, 0},
		{3, long[:1024], 0x616, 0},
		{1, long, 0, 60},
		{2, "", 0, 60},
		{3, "", 0, 60},
		{3, long, 0, 60},
		{4, "a", 0, 61},
		{-1, "a", 0, 61},
		{4, "", 0, 61},
		{0, "", 0, 61},
		{0, long, 0, 61},
		{-1, long, 0, 61},
	} {
		if got, err := span.Bucket(c.depth, c.key); got != c.want || err != c.err {
			t.Errorf("Bucket(%d, %.9q): %d, %d, want %d, %d", c.depth, c.key, got, err, c.want, c.err)
		}
	}
}

// P6.4: each key of one and of two bytes, and those at the edges.
func TestBucketOfShortKeys(t *testing.T) {
	keys := keysAt()
	for c := range 256 {
		keys = append(keys, string([]byte{byte(c)}))
		for d := range 256 {
			keys = append(keys, string([]byte{byte(c), byte(d)}))
		}
	}
	for _, key := range keys {
		for depth := 1; depth <= 3; depth++ {
			if got, want := mustBucket(t, depth, key), modelBucket(depth, key); got != want {
				t.Fatalf("Bucket(%d, %.9q): %d, want %d", depth, key, got, want)
			}
		}
	}
}

// P6.5, the chapter's sixth example and edges.
func TestOf(t *testing.T) {
	for _, c := range []struct {
		depth, bucket int
		from, to      string
	}{
		{1, 0, "", "\x10"},
		{1, 15, "\xf0", ""},
		{3, 1552, "a", "a\x10"},
		{3, 1551, "\x60\xf0", "a"},
		{1, 1, "\x10", "\x20"},
		{1, 14, "\xe0", "\xf0"},
		{2, 0, "", "\x01"},
		{2, 1, "\x01", "\x02"},
		{2, 15, "\x0f", "\x10"},
		{2, 16, "\x10", "\x11"},
		{2, 254, "\xfe", "\xff"},
		{2, 255, "\xff", ""},
		{3, 0, "", "\x00\x10"},
		{3, 1, "\x00\x10", "\x00\x20"},
		{3, 15, "\x00\xf0", "\x01"},
		{3, 16, "\x01", "\x01\x10"},
		{3, 256, "\x10", "\x10\x10"},
		{3, 4079, "\xfe\xf0", "\xff"},
		{3, 4080, "\xff", "\xff\x10"},
		{3, 4094, "\xff\xe0", "\xff\xf0"},
		{3, 4095, "\xff\xf0", ""},
	} {
		if got, want := mustOf(t, c.depth, c.bucket), (api.Range{From: c.from, To: c.to}); got != want {
			t.Errorf("Of(%d, %d): %q, want %q", c.depth, c.bucket, got, want)
		}
	}
}

func TestOfEachBucket(t *testing.T) {
	for depth := 1; depth <= 3; depth++ {
		for b := range bucketsOf(depth) {
			if got, want := mustOf(t, depth, b), modelOf(depth, b); got != want {
				t.Errorf("Of(%d, %d): %q, want %q", depth, b, got, want)
			}
		}
	}
}

// P6.5: the depth is looked at first.
func TestOfWhatIsNot(t *testing.T) {
	for depth := 1; depth <= 3; depth++ {
		for _, b := range wrongBuckets(depth) {
			if got, err := span.Of(depth, b); err != 62 || got != (api.Range{}) {
				t.Errorf("Of(%d, %d): %q, %d", depth, b, got, err)
			}
		}
	}
	for _, depth := range wrongDepths {
		for _, b := range []int{0, 1, -1, 16, math.MaxInt, math.MinInt} {
			if got, err := span.Of(depth, b); err != 61 || got != (api.Range{}) {
				t.Errorf("Of(%d, %d): %q, %d", depth, b, got, err)
			}
		}
	}
}

// P6.4, P6.6, P6.7: depths that may not be.
func TestWrongDepths(t *testing.T) {
	for _, depth := range wrongDepths {
		if got, err := span.Bucket(depth, "\x12\x34"); err != 61 || got != 0 {
			t.Errorf("Bucket(%d): %d, %d", depth, got, err)
		}
		for _, l := range [][]api.Range{nil, ranges("a", "b"), ranges("b", "a")} {
			if got, err := span.Buckets(depth, l...); err != 61 || len(got) != 0 {
				t.Errorf("Buckets(%d, %q): %d, %d", depth, l, got, err)
			}
		}
		for _, l := range [][]int{nil, {0}, {-1}, {16}, {4096}} {
			if got, err := span.Ranges(depth, l...); err != 61 || len(got) != 0 {
				t.Errorf("Ranges(%d, %d): %q, %d", depth, l, got, err)
			}
		}
		for b, r := range span.All(depth) {
			t.Fatalf("All(%d): %d, %q", depth, b, r)
		}
	}
}

// P6.6, the chapter's seventh example and edges.
func TestBuckets(t *testing.T) {
	for i, c := range []struct {
		depth int
		l     []api.Range
		want  []int
	}{
		{1, ranges("a", "b"), []int{6}},
		{1, ranges("a", "a"), nil},
		{1, nil, nil},
		{3, nil, nil},
		{1, ranges("b", "a"), nil},
		{1, ranges("\x60", "\x70"), []int{6}},
		{1, ranges("\x60", "\x70\x00"), []int{6, 7}},
		{1, ranges("\x5f\xff", "\x70"), []int{5, 6}},
		{1, ranges("\x6f\xff", "\x80"), []int{6, 7}},
		{1, ranges("", "\x10"), []int{0}},
		{1, ranges("", "\x00"), []int{0}},
		{2, ranges("", "\x00"), []int{0}},
		{3, ranges("", "\x00"), []int{0}},
		{3, ranges("\x00", "\x00\x10"), []int{0}},
		{3, ranges("\x00", "\x00\x10\x00"), []int{0, 1}},
		{3, ranges("a", "a\x00"), []int{1552}},
		{3, ranges("a\x0f", "a\x10\x00"), []int{1552, 1553}},
		{3, ranges("\x60\xff", "a\x00"), []int{1551, 1552}},
		{1, ranges("\xf0", ""), []int{15}},
		{1, ranges("\xff\xff\xff", ""), []int{15}},
		{2, ranges("\xff\xff\xff", ""), []int{255}},
		{3, ranges("\xff\xff\xff", ""), []int{4095}},
		{3, ranges("\xff\xef\xff", ""), []int{4094, 4095}},
		{1, ranges("\xe0", ""), []int{14, 15}},
		{1, ranges("z", "", "", "\x01"), []int{0, 7, 8, 9, 10, 11, 12, 13, 14, 15}},
		{1, ranges("a", "b", "a", "b", "c", "d", "\x20", "\x20\x00", "b", "a"), []int{2, 6}},
		{1, ranges("\x61", "\x62", "\x63", "\x64", "\x81", "\x91"), []int{6, 8, 9}},
		{2, ranges("\x61", "\x62", "\x63", "\x64", "\x81", "\x83"), []int{0x61, 0x63, 0x81, 0x82}},
		{2, ranges("a", "c", "b", "d"), []int{97, 98, 99}},
		{3, ranges("a\x12", "a\x11"), nil},
	} {
		if got := mustBuckets(t, c.depth, c.l); !slices.Equal(got, c.want) {
			t.Errorf("row %d: %d, want %d", i, got, c.want)
		}
	}
}

func TestBucketsOfAllTexts(t *testing.T) {
	for depth := 1; depth <= 3; depth++ {
		for _, l := range [][]api.Range{ranges("", ""), ranges("\x00", ""), ranges("a", "", "", "a"), ranges("", "", "a", "b", "b", "a")} {
			got := mustBuckets(t, depth, l)
			if !slices.Equal(got, upTo(bucketsOf(depth))) {
				t.Errorf("Buckets(%d, %q): %d", depth, l, got)
			}
		}
	}
}

// upTo: 0, 1 and so on, n numbers.
func upTo(n int) []int {
	var l []int
	for i := range n {
		l = append(l, i)
	}
	return l
}

func TestBucketsOfOneRange(t *testing.T) {
	texts := append(slices.Clone(endTexts), "\x10", "\x0f\xff", "\x10\x00", "\x20", "a\x10", "\xf0", "\xff\xf0", strings.Repeat("\xff", 1025))
	for _, r := range pairs(texts) {
		for depth := 1; depth <= 3; depth++ {
			l := []api.Range{r}
			if got, want := mustBuckets(t, depth, l), modelBuckets(depth, l); !slices.Equal(got, want) {
				t.Fatalf("Buckets(%d, %q): %d, want %d", depth, r, got, want)
			}
		}
	}
}

func TestBucketsAtRandom(t *testing.T) {
	r := rand.New(rand.NewSource(67))
	for i := range 2000 {
		depth := 1 + r.Intn(2)
		if i%50 == 0 {
			depth = 3
		}
		l := randomList(r, 6)
		if got, want := mustBuckets(t, depth, l), modelBuckets(depth, l); !slices.Equal(got, want) {
			t.Fatalf("Buckets(%d, %q): %d, want %d", depth, l, got, want)
		}
	}
}

// P6.6, the chapter's seventh example and edges.
func TestRanges(t *testing.T) {
	for i, c := range []struct {
		depth   int
		buckets []int
		want    []api.Range
	}{
		{1, []int{7, 6, 6}, ranges("\x60", "\x80")},
		{2, nil, nil},
		{2, []int{}, nil},
		{1, []int{0}, ranges("", "\x10")},
		{1, []int{15}, ranges("\xf0", "")},
		{1, []int{15, 0}, ranges("", "\x10", "\xf0", "")},
		{1, []int{15, 14, 0, 1}, ranges("", "\x20", "\xe0", "")},
		{2, []int{255, 0, 255}, ranges("", "\x01", "\xff", "")},
		{3, []int{4095, 0}, ranges("", "\x00\x10", "\xff\xf0", "")},
		{3, []int{1551, 1552}, ranges("\x60\xf0", "a\x10")},
		{3, []int{1551, 1553}, ranges("\x60\xf0", "a", "a\x10", "a\x20")},
		{1, []int{3, 1, 2, 5, 5, 9}, ranges("\x10", "\x40", "\x50", "\x60", "\x90", "\xa0")},
	} {
		if got := mustRanges(t, c.depth, c.buckets); !slices.Equal(got, c.want) {
			t.Errorf("row %d: %q, want %q", i, got, c.want)
		}
	}
}

func TestRangesOfWhatIsNot(t *testing.T) {
	for depth := 1; depth <= 3; depth++ {
		for _, b := range wrongBuckets(depth) {
			for _, l := range [][]int{{b}, {b, 3}, {3, b}, {3, 4, b, 5}, {b, b}, {b, -7}} {
				if got, err := span.Ranges(depth, l...); err != 62 || len(got) != 0 {
					t.Errorf("Ranges(%d, %d): %q, %d", depth, l, got, err)
				}
			}
		}
	}
}

func TestRangesOfEachBucket(t *testing.T) {
	for depth := 1; depth <= 3; depth++ {
		for b := range bucketsOf(depth) {
			if got, want := mustRanges(t, depth, []int{b}), []api.Range{modelOf(depth, b)}; !slices.Equal(got, want) {
				t.Fatalf("Ranges(%d, %d): %q, want %q", depth, b, got, want)
			}
		}
	}
}

// P6.6 and P6.11: any buckets, and back again.
func TestRangesAtRandom(t *testing.T) {
	r := rand.New(rand.NewSource(68))
	for range 3000 {
		depth := 1 + r.Intn(3)
		var l []int
		for range r.Intn(20) {
			l = append(l, r.Intn(min(bucketsOf(depth), 1<<(1+r.Intn(12)))))
		}
		got := mustRanges(t, depth, l)
		if want := modelRanges(depth, l); !slices.Equal(got, want) {
			t.Fatalf("Ranges(%d, %d): %q, want %q", depth, l, got, want)
		}
		once := slices.Compact(slices.Sorted(slices.Values(l)))
		if back := mustBuckets(t, depth, got); !slices.Equal(back, once) {
			t.Fatalf("Buckets of Ranges(%d, %d): %d", depth, l, back)
		}
	}
}

// P6.11: each set of the buckets of depth 1.
func TestRangesOfEachSet(t *testing.T) {
	for set := range 1 << 16 {
		var l []int
		for b := range 16 {
			if set>>b&1 == 1 {
				l = append(l, b)
			}
		}
		got := mustRanges(t, 1, l)
		if !isNormal(got) {
			t.Fatalf("%d: %q", l, got)
		}
		if back := mustBuckets(t, 1, got); !slices.Equal(back, l) {
			t.Fatalf("%d: %q, and back %d", l, got, back)
		}
	}
}

// P6.11.
func TestRangesOfAllBuckets(t *testing.T) {
	r := rand.New(rand.NewSource(69))
	for depth := 1; depth <= 3; depth++ {
		for _, l := range [][]int{upTo(bucketsOf(depth)), r.Perm(bucketsOf(depth))} {
			if got := mustRanges(t, depth, l); !slices.Equal(got, ranges("", "")) {
				t.Errorf("depth %d: %q", depth, got)
			}
		}
	}
}

// P6.7.
func TestAll(t *testing.T) {
	for depth := 1; depth <= 3; depth++ {
		all := span.All(depth)
		for range 2 { // gone over again
			n := 0
			for b, r := range all {
				if b != n || r != modelOf(depth, n) {
					t.Fatalf("All(%d), place %d: %d, %q", depth, n, b, r)
				}
				n++
			}
			if n != bucketsOf(depth) {
				t.Errorf("All(%d): %d buckets", depth, n)
			}
		}
	}
}

// P6.7: left at any time, and then gone over again from its beginning.
func TestAllLeft(t *testing.T) {
	for depth := 1; depth <= 2; depth++ {
		all := span.All(depth)
		for stop := range bucketsOf(depth) {
			var got []int
			all(func(b int, _ api.Range) bool {
				got = append(got, b)
				return b != stop
			})
			if !slices.Equal(got, upTo(stop+1)) {
				t.Fatalf("All(%d) left at %d: %d", depth, stop, got)
			}
		}
	}
}

func TestAllLeftAtDepth3(t *testing.T) {
	all := span.All(3)
	for _, stop := range []int{0, 1, 15, 16, 255, 256, 4094, 4095} {
		n := 0
		for b := range all {
			n++
			if b == stop {
				break
			}
		}
		if n != stop+1 {
			t.Errorf("left at %d: %d", stop, n)
		}
	}
}

// P6.7: nested in itself, and in one of another depth.
func TestAllNested(t *testing.T) {
	all := span.All(1)
	outer, inner := 0, 0
	for a, ra := range all {
		if a != outer || ra != modelOf(1, a) {
			t.Fatalf("outer %d: %d, %q", outer, a, ra)
		}
		outer++
		for b, rb := range all {
			if rb != modelOf(1, b) {
				t.Fatalf("inner %d: %q", b, rb)
			}
			inner++
			if b == a {
				break
			}
		}
	}
	if outer != 16 || inner != 136 {
		t.Errorf("%d, %d", outer, inner)
	}
	for a, whole := range span.All(2) {
		var parts []api.Range
		for b, part := range span.All(3) {
			if b/16 == a {
				parts = append(parts, part)
			}
		}
		if got := span.Normal(parts...); !slices.Equal(got, []api.Range{whole}) {
			t.Fatalf("bucket %d: %q, want %q", a, got, whole)
		}
	}
}

// P6.10: every key stands in its bucket's range and in no other one's.
func TestKeysStandInTheirBuckets(t *testing.T) {
	keys := keysAt()
	r := rand.New(rand.NewSource(70))
	for range 300 {
		keys = append(keys, "k"+randomText(r, 4), "\x00"+randomText(r, 3), randomText(r, 3)+"\xff")
	}
	for depth := 1; depth <= 3; depth++ {
		for _, key := range keys {
			own := mustBucket(t, depth, key)
			for b, rg := range span.All(depth) {
				if span.Has(rg, key) != (b == own) {
					t.Fatalf("depth %d: %.9q of bucket %d: bucket %d has it: %v", depth, key, own, b, span.Has(rg, key))
				}
			}
		}
	}
}

// P6.5: also the empty text, which is no key, stands in just one range.
func TestOfHasTheEmptyText(t *testing.T) {
	for depth := 1; depth <= 3; depth++ {
		for b, r := range span.All(depth) {
			if span.Has(r, "") != (b == 0) {
				t.Errorf("Of(%d, %d): %q", depth, b, r)
			}
		}
	}
}

// P6.10.
func TestBucketsRiseWithKeys(t *testing.T) {
	r := rand.New(rand.NewSource(71))
	keys := keysAt()
	for range 2000 {
		keys = append(keys, randomText(r, 3)+string([]byte{byte(r.Intn(256))}))
	}
	slices.Sort(keys)
	for depth := 1; depth <= 3; depth++ {
		last := 0
		for _, key := range keys {
			b := mustBucket(t, depth, key)
			if b < last {
				t.Fatalf("depth %d, key %.9q: %d behind %d", depth, key, b, last)
			}
			last = b
			if depth > 1 && mustBucket(t, depth-1, key) != b/api.Fan {
				t.Fatalf("depth %d, key %.9q", depth, key)
			}
		}
	}
}

// P6.10: the buckets of a depth more that begin with a bucket's digits.
func TestBucketsOfADepthMore(t *testing.T) {
	for depth := 1; depth <= 2; depth++ {
		for b := range bucketsOf(depth) {
			var l []int
			for i := range api.Fan {
				l = append(l, b*api.Fan+i)
			}
			own := []api.Range{mustOf(t, depth, b)}
			if got := mustRanges(t, depth+1, l); !slices.Equal(got, own) {
				t.Fatalf("depth %d, bucket %d: %q, want %q", depth, b, got, own)
			}
			if got := mustBuckets(t, depth+1, own); !slices.Equal(got, l) {
				t.Fatalf("depth %d, bucket %d: %d, want %d", depth, b, got, l)
			}
		}
	}
}

// R1: many ranges and many buckets do not take long.
func TestManyBuckets(t *testing.T) {
	r := rand.New(rand.NewSource(72))
	var l []api.Range
	for range 1 << 17 {
		from := fmt.Sprintf("%c%06d", 'a'+byte(r.Intn(2)), r.Intn(1000000))
		l = append(l, api.Range{From: from, To: from + "\x00"})
	}
	if got, want := mustBuckets(t, 3, l), []int{0x613, 0x623}; !slices.Equal(got, want) {
		t.Errorf("Buckets: %d, want %d", got, want)
	}
	var odd []int
	for range 1 << 21 {
		odd = append(odd, 1+2*r.Intn(2048))
	}
	got := mustRanges(t, 3, odd)
	if len(got) != 2048 || !isNormal(got) || got[0] != modelOf(3, 1) || got[2047] != modelOf(3, 4095) {
		t.Errorf("Ranges: %d of them", len(got))
	}
}
