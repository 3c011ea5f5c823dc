package config

import (
	"slices"

	"hawser/api"
)

// Without answers the next epoch, without a node.
func Without(c api.Config, node int) (api.Config, api.Errno) {
	p, err := look(c)
	place := p.of(node)
	switch {
	case err != api.OK:
		return api.Config{}, err
	case place == 0:
		return api.Config{}, api.ErrConfigNode
	case len(c.Chain) == 1:
		return api.Config{}, api.ErrConfigChain
	}
	return behind(c.Epoch, c.Chain[:place-1], c.Chain[place:])
}

// With answers the next epoch, with a node behind the tail.
func With(c api.Config, node int) (api.Config, api.Errno) {
	p, err := look(c)
	switch {
	case err != api.OK:
		return api.Config{}, err
	case !isNode(node) || p.of(node) != 0:
		return api.Config{}, api.ErrConfigNode
	}
	return behind(c.Epoch, c.Chain, []int{node})
}

// behind answers the epoch right behind one, with a chain of these parts.
func behind(epoch int, parts ...[]int) (api.Config, api.Errno) {
	if epoch == api.MaxEpoch {
		return api.Config{}, api.ErrConfigEpoch
	}
	return api.Config{Epoch: epoch + 1, Chain: slices.Concat(parts...)}, api.OK
}

// Follows answers whether b may come right behind a.
func Follows(a, b api.Config) bool {
	for node := 1; node <= api.MaxNodes; node++ {
		less, err := Without(a, node)
		if err == api.OK && Alike(less, b) {
			return true
		}
		more, err := With(a, node)
		if err == api.OK && Alike(more, b) {
			return true
		}
	}
	return false
}
