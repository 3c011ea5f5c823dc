package span

import (
	"slices"
	"strings"

	"hawser/api"
)

// edge is a text from which on a list has one range more or one less.
type edge struct {
	at   string
	list int // 0 or 1
	step int // 1 where the range begins, -1 where it ends
}

// Normal answers the texts that at least one of the ranges has, in normal form.
func Normal(l ...api.Range) []api.Range {
	return lay(l, nil, func(inL, _ bool) bool { return inL })
}

// Meet answers the texts that both lists have, in normal form.
func Meet(a, b []api.Range) []api.Range {
	return lay(a, b, func(inA, inB bool) bool { return inA && inB })
}

// Minus answers the texts that the first list has and the second one has not, in normal form.
func Minus(a, b []api.Range) []api.Range {
	return lay(a, b, func(inA, inB bool) bool { return inA && !inB })
}

// Covers answers whether the first list has all texts of the second one.
func Covers(a, b []api.Range) bool { return len(Minus(b, a)) == 0 }

// lay answers, in normal form, the texts that are wanted, by whether a has them and whether b has them; what neither has may not be wanted, since no edge tells where that begins.
func lay(a, b []api.Range, wanted func(inA, inB bool) bool) []api.Range {
	edges := rising(a, b)
	var out []api.Range
	var open [2]int // how many ranges of each list have begun and not ended
	in, from := false, ""
	for i, e := range edges {
		open[e.list] += e.step
		if i+1 < len(edges) && edges[i+1].at == e.at {
			continue // ranges that touch are one: what counts is how it stands behind all edges of a text
		}
		was := in
		in = wanted(open[0] > 0, open[1] > 0)
		switch {
		case in && !was:
			from = e.at
		case was && !in:
			out = append(out, api.Range{From: from, To: e.at})
		}
	}
	if in {
		out = append(out, api.Range{From: from})
	}
	return out
}

// rising answers the edges of both lists by their texts.
func rising(a, b []api.Range) []edge {
	edges := make([]edge, 0, 2*(len(a)+len(b)))
	for list, l := range [][]api.Range{a, b} {
		for _, r := range l {
			if Empty(r) {
				continue // its end may stand ahead of its beginning
			}
			edges = append(edges, edge{r.From, list, 1})
			if r.To != "" {
				edges = append(edges, edge{r.To, list, -1})
			}
		}
	}
	slices.SortFunc(edges, func(x, y edge) int { return strings.Compare(x.at, y.at) })
	return edges
}
