package table

import (
	"cmp"
	"iter"
)

// find answers the part of a tree whose top stands at a place; nil, if nothing does.
func (n *tree[K, T]) find(at K) *tree[K, T] {
	for n != nil && n.item.place() != at {
		if at < n.item.place() {
			n = n.left
		} else {
			n = n.right
		}
	}
	return n
}

// rank answers how many things stand ahead of a place.
func (n *tree[K, T]) rank(at K) int {
	ahead := 0
	for n != nil {
		if n.item.place() < at {
			ahead += n.left.count() + 1
			n = n.right
		} else {
			n = n.left
		}
	}
	return ahead
}

// nth answers the thing that has i others ahead of it; i is 0 or more and below count.
func (n *tree[K, T]) nth(i int) T {
	for i != n.left.count() {
		if i < n.left.count() {
			n = n.left
		} else {
			i -= n.left.count() + 1
			n = n.right
		}
	}
	return n.item
}

// rising tells, by rising places, the things at those places of which side answers 0; of all places ahead of them it answers less, of all behind them more.
func (n *tree[K, T]) rising(side func(K) int) iter.Seq[T] {
	return func(yield func(T) bool) { n.up(side, yield) }
}

// up answers false as soon as yield does.
func (n *tree[K, T]) up(side func(K) int, yield func(T) bool) bool {
	if n == nil {
		return true
	}
	s := side(n.item.place())
	return (s < 0 || n.left.up(side, yield)) && (s != 0 || yield(n.item)) && (s > 0 || n.right.up(side, yield))
}

// falling tells the things that rising tells, by falling places.
func (n *tree[K, T]) falling(side func(K) int) iter.Seq[T] {
	return func(yield func(T) bool) { n.down(side, yield) }
}

// down answers false as soon as yield does.
func (n *tree[K, T]) down(side func(K) int, yield func(T) bool) bool {
	if n == nil {
		return true
	}
	s := side(n.item.place())
	return (s > 0 || n.right.down(side, yield)) && (s != 0 || yield(n.item)) && (s < 0 || n.left.down(side, yield))
}

// unlike tells, by rising places, one thing of each place at which two trees do not hold the same.
func unlike[K cmp.Ordered, T placed[K]](a, b *tree[K, T]) iter.Seq[T] {
	return func(yield func(T) bool) { apart(a, b, yield) }
}

// apart answers false as soon as yield does.
func apart[K cmp.Ordered, T placed[K]](a, b *tree[K, T], yield func(T) bool) bool {
	if a == b {
		return true // what two trees share is the same in both: it need not be gone over
	}
	if a == nil {
		a, b = b, a
	}
	less, same, more := b.split(a.item.place())
	if !apart(a.left, less, yield) {
		return false
	}
	if (same == nil || same.item != a.item) && !yield(a.item) {
		return false
	}
	return apart(a.right, more, yield)
}
