package config_test

import (
	"encoding/binary"
	"math"
	"slices"

	"hawser/api"
)

// The errors by their numbers, and the limits, as the document has them.
const (
	errArg   = api.Errno(1)
	errEpoch = api.Errno(160)
	errNode  = api.Errno(161)
	errChain = api.Errno(162)
	errForm  = api.Errno(163)

	topEpoch = 1 << 40
	topNode  = 8
)

func cf(epoch int, chain ...int) api.Config { return api.Config{Epoch: epoch, Chain: chain} }

// same: the same configuration; nil and an empty chain are the same.
func same(a, b api.Config) bool {
	if a.Epoch != b.Epoch || len(a.Chain) != len(b.Chain) {
		return false
	}
	for i, n := range a.Chain {
		if b.Chain[i] != n {
			return false
		}
	}
	return true
}

func clone(c api.Config) api.Config { return cf(c.Epoch, slices.Clone(c.Chain)...) }

// checked is P16.1 word by word.
func checked(c api.Config) api.Errno {
	if c.Epoch < 1 || c.Epoch > topEpoch {
		return errEpoch
	}
	if len(c.Chain) == 0 || len(c.Chain) > topNode {
		return errChain
	}
	times := map[int]int{}
	for _, n := range c.Chain {
		times[n]++
		if n < 1 || n > topNode || times[n] > 1 {
			return errNode
		}
	}
	return 0
}

// without is P16.3 word by word.
func without(c api.Config, node int) (api.Config, api.Errno) {
	if e := checked(c); e != 0 {
		return api.Config{}, e
	}
	var rest []int
	for _, n := range c.Chain {
		if n != node {
			rest = append(rest, n)
		}
	}
	switch {
	case len(rest) == len(c.Chain):
		return api.Config{}, errNode
	case len(rest) == 0:
		return api.Config{}, errChain
	case c.Epoch == topEpoch:
		return api.Config{}, errEpoch
	}
	return cf(c.Epoch+1, rest...), 0
}

// with is P16.4 word by word.
func with(c api.Config, node int) (api.Config, api.Errno) {
	if e := checked(c); e != 0 {
		return api.Config{}, e
	}
	switch {
	case node < 1 || node > topNode || slices.Contains(c.Chain, node):
		return api.Config{}, errNode
	case c.Epoch == topEpoch:
		return api.Config{}, errEpoch
	}
	return cf(c.Epoch+1, append(slices.Clone(c.Chain), node)...), 0
}

// follows is P16.5 word by word.
func follows(a, b api.Config) bool {
	for node := 1; node <= topNode; node++ {
		if c, e := without(a, node); e == 0 && same(c, b) {
			return true
		}
		if c, e := with(a, node); e == 0 && same(c, b) {
			return true
		}
	}
	return false
}

// laid are the numbers of a configuration one behind the other, whether it may be or not.
func laid(c api.Config) []byte {
	b := binary.AppendUvarint(nil, uint64(c.Epoch))
	b = binary.AppendUvarint(b, uint64(len(c.Chain)))
	for _, n := range c.Chain {
		b = binary.AppendUvarint(b, uint64(n))
	}
	return b
}

// taken: the configuration that may be of which these are the bytes.
func taken(b []byte) (api.Config, bool) {
	var l []uint64
	for rest := b; len(rest) > 0; {
		v, n := binary.Uvarint(rest)
		if n <= 0 || v > topEpoch {
			return api.Config{}, false
		}
		l = append(l, v)
		rest = rest[n:]
	}
	if len(l) < 2 {
		return api.Config{}, false
	}
	c := cf(int(l[0]))
	for _, v := range l[2:] {
		c.Chain = append(c.Chain, int(v))
	}
	if checked(c) != 0 || string(laid(c)) != string(b) {
		return api.Config{}, false
	}
	return c, true
}

// epochs: ordinary ones, the ends of what may be, and what may not be.
func epochs() []int {
	return []int{math.MinInt, -1, 0, 1, 2, 127, 128, 300, 1 << 35, topEpoch - 1, topEpoch, topEpoch + 1, math.MaxInt}
}

// numbers: of nodes and of none.
func numbers() []int {
	return []int{math.MinInt, -topNode, -1, 0, 1, 2, 3, 4, 5, 6, 7, 8, 9, 16, 257, 1 << 32, 1<<32 + 1, math.MaxInt}
}

// listsOf: each list of at most so many of these numbers.
func listsOf(most int, of ...int) [][]int {
	all := [][]int{nil}
	for from := 0; most > 0; most-- {
		end := len(all)
		for _, l := range all[from:end] {
			for _, n := range of {
				all = append(all, append(slices.Clone(l), n))
			}
		}
		from = end
	}
	return all
}

// chains: each one that may be of the nodes 1 to top.
func chains(top int) [][]int {
	var all [][]int
	var grow func([]int)
	grow = func(l []int) {
		for n := 1; n <= top; n++ {
			if !slices.Contains(l, n) {
				longer := append(slices.Clone(l), n)
				all = append(all, longer)
				grow(longer)
			}
		}
	}
	grow(nil)
	return all
}

// odd: chains of which most may not be.
func odd() [][]int {
	l := listsOf(3, math.MinInt, -1, 0, 1, 2, 8, 9, math.MaxInt)
	for n := 1; n <= 12; n++ {
		var rising, alike, falling []int
		for i := range n {
			rising = append(rising, i+1)
			alike = append(alike, 3)
			falling = append(falling, n-i)
		}
		l = append(l, rising, alike, falling, append(slices.Clone(rising[:n-1]), 1), append(slices.Clone(rising[:n-1]), 0))
	}
	return append(l, make([]int, 1000))
}

// configs: of all these epochs and chains.
func configs(epochs []int, chains [][]int) []api.Config {
	var l []api.Config
	for _, e := range epochs {
		for _, c := range chains {
			l = append(l, cf(e, c...))
		}
	}
	return l
}
