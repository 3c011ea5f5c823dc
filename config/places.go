package config

import "hawser/api"

// places are the nodes' places in a chain, by their numbers: 1 is the head's. Who is not in the chain has 0.
type places [api.MaxNodes + 1]int

// look answers the places of a configuration's nodes, if it may be; if not, nobody has one.
func look(c api.Config) (places, api.Errno) {
	var p places
	if !within(c.Epoch, 1, api.MaxEpoch) {
		return p, api.ErrConfigEpoch
	}
	if !within(len(c.Chain), 1, api.MaxNodes) {
		return p, api.ErrConfigChain
	}
	for i, node := range c.Chain {
		if !isNode(node) || p[node] != 0 {
			return places{}, api.ErrConfigNode
		}
		p[node] = i + 1
	}
	return p, api.OK
}

// of answers a node's place, whatever number it has.
func (p places) of(node int) int {
	if !isNode(node) {
		return 0
	}
	return p[node]
}

func isNode(node int) bool { return within(node, 1, api.MaxNodes) }

// Head answers the first node.
func Head(c api.Config) int { return at(c, 1) }

// Tail answers the last node.
func Tail(c api.Config) int { return at(c, len(c.Chain)) }

// Prev answers the node right ahead of one; 0, if there is none.
func Prev(c api.Config, node int) int { return beside(c, node, -1) }

// Next answers the node right behind one; 0, if there is none.
func Next(c api.Config, node int) int { return beside(c, node, 1) }

// Role answers what a node is in a configuration.
func Role(c api.Config, node int) api.Role {
	p, _ := look(c)
	switch place := p.of(node); {
	case place == 0:
		return api.RoleOut
	case len(c.Chain) == 1:
		return api.RoleOnly
	case place == 1:
		return api.RoleHead
	case place == len(c.Chain):
		return api.RoleTail
	}
	return api.RoleMiddle
}

// beside answers the node so many places behind one; 0, if there is none.
func beside(c api.Config, node, by int) int {
	p, _ := look(c)
	place := p.of(node)
	if place == 0 {
		return 0
	}
	return at(c, place+by)
}

// at answers the node at a place; 0, if there is none.
func at(c api.Config, place int) int {
	if Check(c) != api.OK || !within(place, 1, len(c.Chain)) {
		return 0
	}
	return c.Chain[place-1]
}
