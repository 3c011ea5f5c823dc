package config_test

import (
	"math"
	"slices"
	"testing"

	"hawser/api"
	"hawser/config"
)

type step func(api.Config, int) (api.Config, api.Errno)

func TestStepExamples(t *testing.T) {
	c := cf(4, 2, 5, 1)
	eight := cf(4, 1, 2, 3, 4, 5, 6, 7, 8)
	for _, x := range []struct {
		name string
		call step
		c    api.Config
		node int
		want api.Config
		e    api.Errno
	}{
		{"Without", config.Without, c, 5, cf(5, 2, 1), 0},
		{"Without", config.Without, c, 2, cf(5, 5, 1), 0},
		{"Without", config.Without, c, 1, cf(5, 2, 5), 0},
		{"Without", config.Without, c, 3, api.Config{}, errNode},
		{"Without", config.Without, c, 0, api.Config{}, errNode},
		{"Without", config.Without, c, 9, api.Config{}, errNode},
		{"Without", config.Without, cf(4, 2), 2, api.Config{}, errChain},
		{"Without", config.Without, cf(4, 2), 3, api.Config{}, errNode},
		{"Without", config.Without, cf(topEpoch, 2), 3, api.Config{}, errNode},
		{"Without", config.Without, cf(topEpoch, 2), 2, api.Config{}, errChain},
		{"Without", config.Without, cf(topEpoch, 2, 1), 2, api.Config{}, errEpoch},
		{"Without", config.Without, cf(topEpoch-1, 2, 1), 2, cf(topEpoch, 1), 0},
		{"Without", config.Without, cf(0, 2, 1), 2, api.Config{}, errEpoch},
		{"Without", config.Without, cf(1), 2, api.Config{}, errChain},
		{"Without", config.Without, cf(1, 2, 2), 2, api.Config{}, errNode},
		{"With", config.With, c, 8, cf(5, 2, 5, 1, 8), 0},
		{"With", config.With, c, 5, api.Config{}, errNode},
		{"With", config.With, c, 9, api.Config{}, errNode},
		{"With", config.With, c, 0, api.Config{}, errNode},
		{"With", config.With, eight, 8, api.Config{}, errNode},
		{"With", config.With, eight, 9, api.Config{}, errNode},
		{"With", config.With, cf(topEpoch, 1), 2, api.Config{}, errEpoch},
		{"With", config.With, cf(topEpoch, 1), 1, api.Config{}, errNode},
		{"With", config.With, cf(topEpoch-1, 1), 2, cf(topEpoch, 1, 2), 0},
		{"With", config.With, cf(0, 2, 1), 3, api.Config{}, errEpoch},
		{"With", config.With, cf(1), 2, api.Config{}, errChain},
		{"With", config.With, cf(1, 2, 2), 3, api.Config{}, errNode},
	} {
		if got, e := x.call(x.c, x.node); e != x.e || !same(got, x.want) {
			t.Errorf("%s(%v, %d): %v, %d, want %v, %d", x.name, x.c, x.node, got, e, x.want, x.e)
		}
	}
}

func held(t *testing.T, c api.Config, node int) {
	t.Helper()
	for _, x := range []struct {
		name       string
		call, want step
	}{{"Without", config.Without, without}, {"With", config.With, with}} {
		got, e := x.call(c, node)
		if want, wrong := x.want(c, node); e != wrong || !same(got, want) {
			t.Fatalf("%s(%v, %d): %v, %d, want %v, %d", x.name, c, node, got, e, want, wrong)
		}
	}
}

func TestSteps(t *testing.T) {
	for _, c := range configs([]int{1, topEpoch - 1, topEpoch}, chains(5)) {
		for _, node := range numbers() {
			held(t, c, node)
		}
	}
	for _, c := range configs(epochs(), odd()) {
		for _, node := range []int{math.MinInt, 0, 1, 3, 8, 9, math.MaxInt} {
			held(t, c, node)
		}
	}
	for _, l := range chains(topNode) {
		for node := range topNode + 2 {
			held(t, cf(6, l...), node)
		}
	}
}

func TestFollowsExamples(t *testing.T) {
	c := cf(4, 2, 5, 1)
	for _, x := range []struct {
		a, b api.Config
		want bool
	}{
		{c, cf(5, 2, 1), true},
		{c, cf(5, 2, 5), true},
		{c, cf(5, 5, 1), true},
		{c, cf(5, 2, 5, 1, 3), true},
		{c, cf(5, 2, 1, 5), false},
		{c, cf(5, 1, 2), false},
		{c, cf(5, 2), false},
		{c, cf(5, 2, 5, 3), false},
		{c, cf(5, 3, 2, 5, 1), false},
		{c, cf(5, 2, 5, 3, 1), false},
		{c, cf(5, 2, 5, 1, 3, 4), false},
		{c, cf(5, 2, 5, 1, 2), false},
		{c, cf(5, 2, 5, 1, 9), false},
		{c, cf(5, 2, 5, 1, 0), false},
		{c, cf(6, 2, 1), false},
		{c, cf(4, 2, 1), false},
		{c, cf(5, 2, 5, 1), false},
		{c, c, false},
		{cf(5, 2, 1), c, false},
		{cf(4, 2), cf(5), false},
		{cf(4, 2), cf(5, 2, 1), true},
		{cf(4, 2), cf(5, 1), false},
		{cf(topEpoch, 1, 2), cf(topEpoch+1, 1), false},
		{cf(topEpoch-1, 1, 2), cf(topEpoch, 1), true},
		{cf(topEpoch, 1, 2), api.Config{}, false},
		{cf(0, 1, 2), cf(1, 1), false},
		{cf(0, 1, 2), cf(1, 1, 2, 3), false},
		{cf(4, 1, 1), cf(5, 1), false},
		{cf(4, 1, 9), cf(5, 1), false},
		{cf(4), cf(5, 1), false},
		{api.Config{}, api.Config{}, false},
		{api.Config{}, cf(1, 1), false},
		{cf(math.MaxInt, 1, 2), cf(math.MinInt, 1), false},
	} {
		if got := config.Follows(x.a, x.b); got != x.want {
			t.Errorf("Follows(%v, %v): %v", x.a, x.b, got)
		}
	}
}

// Each pair of configurations of a few epochs and nodes, of which many may not be.
func TestFollows(t *testing.T) {
	l := configs([]int{0, 1, 2, 3}, append(listsOf(3, 0, 1, 2, 8, 9), chains(3)...))
	for _, a := range l {
		for _, b := range l {
			if got := config.Follows(a, b); got != follows(a, b) {
				t.Fatalf("Follows(%v, %v): %v", a, b, got)
			}
		}
	}
}

// What Without and With answer follows, and nothing that is but a little unlike.
func TestFollowsSteps(t *testing.T) {
	for i, l := range chains(topNode) {
		if i%11 > 0 {
			continue // so many take long
		}
		a := cf(6, l...)
		node := 1 + i%topNode
		b, e := config.With(a, node)
		if e != 0 {
			b, e = config.Without(a, node)
		}
		if e != 0 {
			continue // the only one
		}
		if !config.Follows(a, b) || !config.Follows(clone(a), clone(b)) {
			t.Fatalf("%v does not follow %v", b, a)
		}
		for _, other := range near(b) {
			if got := config.Follows(a, other); got != follows(a, other) {
				t.Fatalf("Follows(%v, %v): %v", a, other, got)
			}
		}
	}
}

// near: configurations that are but a little unlike.
func near(c api.Config) []api.Config {
	l := []api.Config{cf(c.Epoch-1, c.Chain...), cf(c.Epoch+1, c.Chain...), cf(c.Epoch, append(slices.Clone(c.Chain), 5)...)}
	for i := range c.Chain {
		for _, v := range []int{c.Chain[0], c.Chain[i] + 1} {
			other := clone(c)
			other.Chain[i], other.Chain[0] = v, c.Chain[i]
			l = append(l, other)
		}
		l = append(l, cf(c.Epoch, slices.Delete(slices.Clone(c.Chain), i, i+1)...))
	}
	return l
}

// P16.10 in its own words.
func TestWhatFollows(t *testing.T) {
	l := configs([]int{1, 2, 3}, chains(4))
	pairs := 0
	for _, a := range l {
		for _, b := range l {
			if !config.Follows(a, b) {
				continue
			}
			pairs++
			if b.Epoch != a.Epoch+1 || !slices.Equal(both(a, b), both(b, a)) || len(both(a, b)) == 0 {
				t.Fatalf("%v follows %v", b, a)
			}
		}
	}
	// Of epochs 1 and 2: from each of 4 + 12 + 24 + 24 chains one of each other node, and one without each node, but the only one.
	if want := 2 * (4*3 + 12*2 + 24*1 + 12*2 + 24*3 + 24*4); pairs != want {
		t.Errorf("%d pairs, want %d", pairs, want)
	}
	for _, l := range chains(6) {
		c := cf(6, l...)
		for n := 1; n <= topNode; n++ {
			more, e := config.With(c, n)
			if e != 0 {
				continue
			}
			if back, e := config.Without(more, n); e != 0 || !same(back, cf(8, c.Chain...)) {
				t.Fatalf("Without(With(%v, %d)): %v, %d", c, n, back, e)
			}
		}
	}
}

// both: the nodes of a that are in b, too, in a's order.
func both(a, b api.Config) []int {
	var l []int
	for _, n := range a.Chain {
		if slices.Contains(b.Chain, n) {
			l = append(l, n)
		}
	}
	return l
}

func TestAlike(t *testing.T) {
	l := configs([]int{math.MinInt, -1, 0, 1, 2, topEpoch, topEpoch + 1, math.MaxInt}, append(listsOf(2, -1, 0, 1, 2, 9), []int{1, 2, 3}, make([]int, 20)))
	for i, a := range l {
		for j, b := range l {
			if got := config.Alike(a, clone(b)); got != (i == j) {
				t.Fatalf("Alike(%v, %v): %v", a, b, got)
			}
		}
	}
	if !config.Alike(api.Config{Epoch: 3}, api.Config{Epoch: 3, Chain: []int{}}) || !config.Alike(api.Config{Epoch: 3, Chain: []int{}}, api.Config{Epoch: 3}) {
		t.Error("nil and an empty chain are the same")
	}
}
