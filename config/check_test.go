package config_test

import (
	"slices"
	"testing"

	"hawser/api"
	"hawser/config"
)

func TestErrorNumbers(t *testing.T) {
	if api.ErrArg != errArg || api.ErrConfigEpoch != errEpoch || api.ErrConfigNode != errNode || api.ErrConfigChain != errChain || api.ErrConfigForm != errForm {
		t.Error("another number")
	}
	if api.MaxEpoch != topEpoch || api.MaxNodes != topNode {
		t.Error("another limit")
	}
	if api.RoleOut != 0 || api.RoleHead != 1 || api.RoleMiddle != 2 || api.RoleTail != 3 || api.RoleOnly != 4 {
		t.Error("another role")
	}
}

func TestCheckExamples(t *testing.T) {
	for _, c := range []struct {
		c    api.Config
		want api.Errno
	}{
		{cf(1, 1, 2, 3), 0},
		{cf(4, 2, 5, 1), 0},
		{cf(topEpoch, 8), 0},
		{cf(1, 8, 7, 6, 5, 4, 3, 2, 1), 0},
		{cf(0, 0), errEpoch},
		{cf(0), errEpoch},
		{cf(-1, 1), errEpoch},
		{cf(topEpoch+1, 1, 1), errEpoch},
		{cf(1), errChain},
		{api.Config{Epoch: 1, Chain: []int{}}, errChain},
		{cf(1, 1, 2, 3, 4, 5, 6, 7, 8, 9), errChain},
		{cf(1, 1, 1, 1, 1, 1, 1, 1, 1, 1), errChain},
		{cf(1, 0), errNode},
		{cf(1, 9), errNode},
		{cf(1, -1), errNode},
		{cf(1, 1, 2, 1), errNode},
		{cf(1, 1, 2, 3, 4, 5, 6, 7, 7), errNode},
		{api.Config{}, errEpoch},
	} {
		if e := config.Check(c.c); e != c.want {
			t.Errorf("Check(%v): %d, want %d", c.c, e, c.want)
		}
	}
}

func TestCheck(t *testing.T) {
	for _, c := range configs(epochs(), odd()) {
		if e := config.Check(c); e != checked(c) {
			t.Fatalf("Check(%v): %d, want %d", c, e, checked(c))
		}
	}
	for _, l := range chains(topNode) {
		if e := config.Check(cf(2, l...)); e != 0 {
			t.Fatalf("Check of %v: %d", l, e)
		}
	}
}

// One node of a chain that may be is exchanged for each other number.
func TestCheckOneNode(t *testing.T) {
	for n := 1; n <= topNode; n++ {
		for at := range n {
			for _, v := range numbers() {
				c := cf(9, []int{3, 8, 1, 6, 2, 7, 4, 5}[:n]...)
				c = clone(c)
				c.Chain[at] = v
				if e := config.Check(c); e != checked(c) {
					t.Fatalf("Check(%v): %d, want %d", c, e, checked(c))
				}
			}
		}
	}
}

func TestFirst(t *testing.T) {
	for _, l := range slices.Concat(odd(), chains(5), [][]int{{8, 7, 6, 5, 4, 3, 2, 1}}) {
		want, wrong := cf(1, l...), checked(cf(1, l...))
		if wrong != 0 {
			want = api.Config{}
		}
		if c, e := config.First(l...); e != wrong || !same(c, want) {
			t.Fatalf("First(%v): %v, %d, want %v, %d", l, c, e, want, wrong)
		}
	}
	for _, l := range [][]int{nil, {}} {
		if c, e := config.First(l...); e != errChain || !same(c, api.Config{}) {
			t.Errorf("First of none: %v, %d", c, e)
		}
	}
}
