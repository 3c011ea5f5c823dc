package table

import "cmp"

// placed is what a tree may hold: things that stand in the order of their places, each of some size.
type placed[K cmp.Ordered] interface {
	comparable
	place() K
	size() int
}

// tree holds things by rising places, no two at one place; nil holds none. No tree is ever changed: what is made of one is a new way from its top down, and shares all the rest with it. So whoever keeps a top keeps all that it held.
type tree[K cmp.Ordered, T placed[K]] struct {
	item        T
	left, right *tree[K, T] // lesser places, greater ones; their heights differ by one at most
	high        int
	many        int
	bytes       int
}

func (n *tree[K, T]) height() int {
	if n == nil {
		return 0
	}
	return n.high
}

// count answers how many things there are.
func (n *tree[K, T]) count() int {
	if n == nil {
		return 0
	}
	return n.many
}

// size answers the sizes of all things together.
func (n *tree[K, T]) size() int {
	if n == nil {
		return 0
	}
	return n.bytes
}

// over lays x over two trees whose heights differ by one at most.
func over[K cmp.Ordered, T placed[K]](l *tree[K, T], x T, r *tree[K, T]) *tree[K, T] {
	return &tree[K, T]{
		item: x, left: l, right: r,
		high:  max(l.height(), r.height()) + 1,
		many:  l.count() + 1 + r.count(),
		bytes: l.size() + x.size() + r.size(),
	}
}

// level lays x over two trees whose heights differ by two at most.
func level[K cmp.Ordered, T placed[K]](l *tree[K, T], x T, r *tree[K, T]) *tree[K, T] {
	switch {
	case l.height() > r.height()+1 && l.right.height() > l.left.height():
		m := l.right
		return over(over(l.left, l.item, m.left), m.item, over(m.right, x, r))
	case l.height() > r.height()+1:
		return over(l.left, l.item, over(l.right, x, r))
	case r.height() > l.height()+1 && r.left.height() > r.right.height():
		m := r.left
		return over(over(l, x, m.left), m.item, over(m.right, r.item, r.right))
	case r.height() > l.height()+1:
		return over(over(l, x, r.left), r.item, r.right)
	}
	return over(l, x, r)
}

// join lays x between two trees of any heights; all places of l are less than x's, all places of r greater.
func join[K cmp.Ordered, T placed[K]](l *tree[K, T], x T, r *tree[K, T]) *tree[K, T] {
	switch {
	case l.height() > r.height()+1:
		return level(l.left, l.item, join(l.right, x, r))
	case r.height() > l.height()+1:
		return level(join(l, x, r.left), r.item, r.right)
	}
	return over(l, x, r)
}

// link lays two trees one behind the other; all places of l are less than those of r.
func link[K cmp.Ordered, T placed[K]](l, r *tree[K, T]) *tree[K, T] {
	if r == nil {
		return l
	}
	first, rest := r.first()
	return join(l, first, rest)
}

// first takes the thing at the least place out of a tree that holds some.
func (n *tree[K, T]) first() (T, *tree[K, T]) {
	if n.left == nil {
		return n.item, n.right
	}
	x, rest := n.left.first()
	return x, join(rest, n.item, n.right)
}

// grow makes a tree of things by rising places.
func grow[K cmp.Ordered, T placed[K]](rising []T) *tree[K, T] {
	if len(rising) == 0 {
		return nil
	}
	m := len(rising) / 2
	return over(grow[K](rising[:m]), rising[m], grow[K](rising[m+1:]))
}

// put has x stand at its place, whatever stood there.
func (n *tree[K, T]) put(x T) *tree[K, T] {
	if n == nil {
		return over(nil, x, nil)
	}
	switch cmp.Compare(x.place(), n.item.place()) {
	case -1:
		return join(n.left.put(x), n.item, n.right)
	case 1:
		return join(n.left, n.item, n.right.put(x))
	}
	return over(n.left, x, n.right)
}

// without takes away what stands at a place.
func (n *tree[K, T]) without(at K) *tree[K, T] {
	if n == nil {
		return nil
	}
	switch cmp.Compare(at, n.item.place()) {
	case -1:
		return join(n.left.without(at), n.item, n.right)
	case 1:
		return join(n.left, n.item, n.right.without(at))
	}
	return link(n.left, n.right)
}

// split answers what stands ahead of a place, the part whose top stands at it (nil if none does), and what stands behind it.
func (n *tree[K, T]) split(at K) (less, same, more *tree[K, T]) {
	if n == nil {
		return nil, nil, nil
	}
	switch cmp.Compare(at, n.item.place()) {
	case -1:
		less, same, more = n.left.split(at)
		return less, same, join(more, n.item, n.right)
	case 1:
		less, same, more = n.right.split(at)
		return join(n.left, n.item, less), same, more
	}
	return n.left, n, n.right
}

// cut answers what stands ahead of a place, and what stands at it or behind it.
func (n *tree[K, T]) cut(at K) (less, rest *tree[K, T]) {
	less, same, more := n.split(at)
	if same == nil {
		return less, more
	}
	return less, join(nil, same.item, more)
}
