package span_test

import (
	"encoding/hex"
	"fmt"
	"math/rand"
	"slices"
	"strconv"
	"strings"
	"testing"

	"hawser/api"
	"hawser/span"
)

// What the chapter says, written out plainly and slowly.

// less: byte by byte; a text that another one begins with is less.
func less(a, b string) bool {
	for i := 0; i < len(a) && i < len(b); i++ {
		if a[i] != b[i] {
			return a[i] < b[i]
		}
	}
	return len(a) < len(b)
}

func modelHas(r api.Range, text string) bool {
	return !less(text, r.From) && (r.To == "" || less(text, r.To))
}

func modelEmpty(r api.Range) bool { return r.To != "" && !less(r.From, r.To) }

func anyHas(l []api.Range, text string) bool {
	for _, r := range l {
		if modelHas(r, text) {
			return true
		}
	}
	return false
}

// bounds: the texts at which lists of ranges may change, rising; between two of
// them nothing changes, so these texts stand for all.
func bounds(lists ...[]api.Range) []string {
	texts := []string{""}
	for _, l := range lists {
		for _, r := range l {
			texts = append(texts, r.From, r.To)
		}
	}
	slices.Sort(texts)
	return slices.Compact(texts)
}

// modelList: the set of texts that wanted says, in normal form; the bounds are
// those at which it may change.
func modelList(bounds []string, wanted func(text string) bool) []api.Range {
	var out []api.Range
	for i, from := range bounds {
		if !wanted(from) {
			continue
		}
		to := ""
		if i+1 < len(bounds) {
			to = bounds[i+1]
		}
		if n := len(out); n > 0 && out[n-1].To == from {
			out[n-1].To = to
		} else {
			out = append(out, api.Range{From: from, To: to})
		}
	}
	return out
}

func modelNormal(l []api.Range) []api.Range {
	return modelList(bounds(l), func(t string) bool { return anyHas(l, t) })
}

func modelMeet(a, b []api.Range) []api.Range {
	return modelList(bounds(a, b), func(t string) bool { return anyHas(a, t) && anyHas(b, t) })
}

func modelMinus(a, b []api.Range) []api.Range {
	return modelList(bounds(a, b), func(t string) bool { return anyHas(a, t) && !anyHas(b, t) })
}

func modelCovers(a, b []api.Range) bool {
	for _, t := range bounds(a, b) {
		if anyHas(b, t) && !anyHas(a, t) {
			return false
		}
	}
	return true
}

// isNormal: none is Empty, and each but the last has a To, which is less than
// the next one's From.
func isNormal(l []api.Range) bool {
	for i, r := range l {
		if modelEmpty(r) {
			return false
		}
		if i+1 < len(l) && (r.To == "" || !less(r.To, l[i+1].From)) {
			return false
		}
	}
	return true
}

// modelBucket: the number that the first digits say, of any text.
func modelBucket(depth int, text string) int {
	digits := hex.EncodeToString([]byte(text)) + "000"
	n, err := strconv.ParseInt(digits[:depth], 16, 64)
	if err != nil {
		panic(err)
	}
	return int(n)
}

// modelFrom: the digits of a bucket as bytes.
func modelFrom(depth, bucket int) string {
	digits := fmt.Sprintf("%0*x", depth, bucket)
	if len(digits)%2 == 1 {
		digits += "0"
	}
	b, err := hex.DecodeString(digits)
	if err != nil {
		panic(err)
	}
	return strings.TrimRight(string(b), "\x00")
}

func modelOf(depth, bucket int) api.Range {
	r := api.Range{From: modelFrom(depth, bucket)}
	if bucket+1 < bucketsOf(depth) {
		r.To = modelFrom(depth, bucket+1)
	}
	return r
}

func modelBuckets(depth int, l []api.Range) []int {
	var out []int
	for b := range bucketsOf(depth) {
		own := modelOf(depth, b)
		if slices.ContainsFunc(l, func(r api.Range) bool { return haveCommon(own, r) }) {
			out = append(out, b)
		}
	}
	return out
}

// haveCommon: if two ranges have a text in common, the greater From is one.
func haveCommon(a, b api.Range) bool {
	from := max(a.From, b.From)
	return modelHas(a, from) && modelHas(b, from)
}

func modelRanges(depth int, buckets []int) []api.Range {
	var l []api.Range
	for _, b := range buckets {
		l = append(l, modelOf(depth, b))
	}
	return modelNormal(l)
}

func bucketsOf(depth int) int { return map[int]int{1: 16, 2: 256, 3: 4096}[depth] }

// ranges: by their Froms and Tos.
func ranges(l ...string) []api.Range {
	var out []api.Range
	for i := 0; i < len(l); i += 2 {
		out = append(out, api.Range{From: l[i], To: l[i+1]})
	}
	return out
}

// endTexts: texts that lie close to each other, and at the ends.
var endTexts = []string{"", "\x00", "\x00\x00", "\x00\xff", "\x01", "a", "a\x00", "a\xff", "a\xff\xff", "b", "\xff", "\xff\x00", "\xff\xff"}

// pairs: each range whose ends are among some texts.
func pairs(texts []string) []api.Range {
	var out []api.Range
	for _, from := range texts {
		for _, to := range texts {
			out = append(out, api.Range{From: from, To: to})
		}
	}
	return out
}

func randomText(r *rand.Rand, most int) string {
	bytes := []byte{0, 1, 15, 16, 97, 98, 240, 254, 255}
	var b []byte
	for range r.Intn(most + 1) {
		b = append(b, bytes[r.Intn(len(bytes))])
	}
	return string(b)
}

func randomList(r *rand.Rand, most int) []api.Range {
	var l []api.Range
	for range r.Intn(most + 1) {
		l = append(l, api.Range{From: randomText(r, 3), To: randomText(r, 3)})
	}
	return l
}

// checkLists: all that the four calls answer of two lists.
func checkLists(t *testing.T, a, b []api.Range) {
	t.Helper()
	for _, c := range []struct {
		name      string
		got, want []api.Range
	}{
		{"Normal", span.Normal(a...), modelNormal(a)},
		{"Meet", span.Meet(a, b), modelMeet(a, b)},
		{"Minus", span.Minus(a, b), modelMinus(a, b)},
	} {
		if !slices.Equal(c.got, c.want) {
			t.Fatalf("%s of %q and %q: %q, want %q", c.name, a, b, c.got, c.want)
		}
		if !isNormal(c.got) {
			t.Fatalf("%s of %q and %q is not normal: %q", c.name, a, b, c.got)
		}
	}
	if got, want := span.Covers(a, b), modelCovers(a, b); got != want {
		t.Fatalf("Covers of %q and %q: %v", a, b, got)
	}
}
