package config_test

import (
	"slices"
	"testing"

	"hawser/api"
	"hawser/config"
)

func TestPlacesExamples(t *testing.T) {
	c := cf(4, 2, 5, 1)
	for _, x := range []struct {
		name      string
		got, want int
	}{
		{"Head", config.Head(c), 2},
		{"Tail", config.Tail(c), 1},
		{"Prev 5", config.Prev(c, 5), 2},
		{"Prev 1", config.Prev(c, 1), 5},
		{"Prev 2", config.Prev(c, 2), 0},
		{"Next 2", config.Next(c, 2), 5},
		{"Next 5", config.Next(c, 5), 1},
		{"Next 1", config.Next(c, 1), 0},
		{"Next 7", config.Next(c, 7), 0},
		{"Prev 7", config.Prev(c, 7), 0},
		{"Next 0", config.Next(c, 0), 0},
		{"Prev 0", config.Prev(c, 0), 0},
		{"Role 2", int(config.Role(c, 2)), 1},
		{"Role 5", int(config.Role(c, 5)), 2},
		{"Role 1", int(config.Role(c, 1)), 3},
		{"Role 3", int(config.Role(c, 3)), 0},
		{"Role of one", int(config.Role(cf(4, 2), 2)), 4},
		{"Role of another", int(config.Role(cf(4, 2), 4)), 0},
		{"Head of one", config.Head(cf(4, 2)), 2},
		{"Tail of one", config.Tail(cf(4, 2)), 2},
	} {
		if x.got != x.want {
			t.Errorf("%s: %d, want %d", x.name, x.got, x.want)
		}
	}
}

// neighbours is P16.2 word by word, of a configuration that may be.
func neighbours(c api.Config, node int) (prev, next int, role api.Role) {
	for i, n := range c.Chain {
		if n != node {
			continue
		}
		if i > 0 {
			prev = c.Chain[i-1]
		}
		if i < len(c.Chain)-1 {
			next = c.Chain[i+1]
		}
		switch {
		case prev == 0 && next == 0:
			role = api.RoleOnly
		case prev == 0:
			role = api.RoleHead
		case next == 0:
			role = api.RoleTail
		default:
			role = api.RoleMiddle
		}
	}
	return prev, next, role
}

func TestPlaces(t *testing.T) {
	for i, l := range chains(topNode) {
		c := cf([]int{1, 7, topEpoch}[i%3], l...)
		if config.Head(c) != l[0] || config.Tail(c) != l[len(l)-1] {
			t.Fatalf("%v: Head %d, Tail %d", c, config.Head(c), config.Tail(c))
		}
		for _, node := range numbers() {
			prev, next, role := neighbours(c, node)
			if config.Prev(c, node) != prev || config.Next(c, node) != next || config.Role(c, node) != role {
				t.Fatalf("%v: node %d: Prev %d, Next %d, Role %d", c, node, config.Prev(c, node), config.Next(c, node), config.Role(c, node))
			}
		}
	}
}

// Of a configuration that may not be all answer 0.
func TestPlacesOfNone(t *testing.T) {
	wrong := configs([]int{-1, 0, topEpoch + 1}, chains(3))
	wrong = append(wrong, configs([]int{1, topEpoch}, odd())...)
	for _, c := range wrong {
		if checked(c) == 0 {
			continue
		}
		if config.Head(c) != 0 || config.Tail(c) != 0 {
			t.Fatalf("%v: Head %d, Tail %d", c, config.Head(c), config.Tail(c))
		}
		for _, node := range numbers() {
			if config.Prev(c, node) != 0 || config.Next(c, node) != 0 || config.Role(c, node) != api.RoleOut {
				t.Fatalf("%v: node %d has a place", c, node)
			}
		}
	}
}

// P16.9: there and back, and from the head to the tail.
func TestThroughTheChain(t *testing.T) {
	for _, l := range chains(topNode) {
		c := cf(3, l...)
		var down, up []int
		for n := config.Head(c); n != 0 && len(down) <= topNode; n = config.Next(c, n) {
			down = append(down, n)
		}
		for n := config.Tail(c); n != 0 && len(up) <= topNode; n = config.Prev(c, n) {
			up = append(up, n)
		}
		slices.Reverse(up)
		if !slices.Equal(down, l) || !slices.Equal(up, l) {
			t.Fatalf("%v: down %v, up %v", c, down, up)
		}
		heads, tails := 0, 0
		for n := 1; n <= topNode; n++ {
			next, prev, role := config.Next(c, n), config.Prev(c, n), config.Role(c, n)
			if next != 0 && config.Prev(c, next) != n || prev != 0 && config.Next(c, prev) != n {
				t.Fatalf("%v: node %d: there, but not back", c, n)
			}
			if role == api.RoleHead || role == api.RoleOnly {
				heads++
			}
			if role == api.RoleTail || role == api.RoleOnly {
				tails++
			}
		}
		if heads != 1 || tails != 1 {
			t.Fatalf("%v: %d heads, %d tails", c, heads, tails)
		}
	}
}
