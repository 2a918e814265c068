package sorted

import "cmp"

// A tree is balanced, if at each node neither side weighs more than heavy times the
// other one. By these two numbers one turn, or two, make a tree so again to which
// one thing has come, or from which one has gone; not every two numbers do so.
const (
	heavy = 3
	slant = 2
)

// node is a tree: what is left is below its thing, what is right is above it; nil
// is the empty tree. No node is changed once it is made: so a going over has the
// tree with which it began, whatever becomes of the set.
type node[T cmp.Ordered] struct {
	left, right *node[T]
	thing       T
	count       int
}

// join makes the tree of left, x and right.
func join[T cmp.Ordered](left *node[T], x T, right *node[T]) *node[T] {
	return &node[T]{left, right, x, left.size() + 1 + right.size()}
}

// size tells how many things there are.
func (n *node[T]) size() int {
	if n == nil {
		return 0
	}
	return n.count
}

// weight is one more than the size: so an empty side can be held against another one.
func (n *node[T]) weight() int {
	return n.size() + 1
}

// with makes the tree that has x, too, which is not there.
func (n *node[T]) with(x T) *node[T] {
	if n == nil {
		return join(nil, x, nil)
	}
	if cmp.Less(x, n.thing) {
		return balance(n.left.with(x), n.thing, n.right)
	}
	return balance(n.left, n.thing, n.right.with(x))
}

// without makes the tree that has not x, which is there.
func (n *node[T]) without(x T) *node[T] {
	order := cmp.Compare(x, n.thing)
	if order < 0 {
		return balance(n.left.without(x), n.thing, n.right)
	}
	if order > 0 {
		return balance(n.left, n.thing, n.right.without(x))
	}
	if n.right == nil {
		return n.left
	}
	next := n.right.first()
	return balance(n.left, next, n.right.without(next))
}

// first tells the lowest thing of a tree that is not empty.
func (n *node[T]) first() T {
	for n.left != nil {
		n = n.left
	}
	return n.thing
}

// balance joins sides one of which may be too heavy by one thing that has come or gone.
func balance[T cmp.Ordered](left *node[T], x T, right *node[T]) *node[T] {
	switch {
	case right.weight() > heavy*left.weight():
		return turnLeft(left, x, right)
	case left.weight() > heavy*right.weight():
		return turnRight(left, x, right)
	}
	return join(left, x, right)
}

// turnLeft joins, where the right side is too heavy.
func turnLeft[T cmp.Ordered](left *node[T], x T, right *node[T]) *node[T] {
	mid := right.left
	if mid.weight() < slant*right.right.weight() {
		return join(join(left, x, mid), right.thing, right.right)
	}
	return join(join(left, x, mid.left), mid.thing, join(mid.right, right.thing, right.right))
}

// turnRight joins, where the left side is too heavy.
func turnRight[T cmp.Ordered](left *node[T], x T, right *node[T]) *node[T] {
	mid := left.right
	if mid.weight() < slant*left.left.weight() {
		return join(left.left, left.thing, join(mid, x, right))
	}
	return join(join(left.left, left.thing, mid.left), mid.thing, join(mid.right, x, right))
}

// walk hands places, from the one told on, and things to yield till that says no, and tells whether it never did.
func (n *node[T]) walk(place int, yield func(int, T) bool) bool {
	if n == nil {
		return true
	}
	own := place + n.left.size()
	return n.left.walk(place, yield) && yield(own, n.thing) && n.right.walk(own+1, yield)
}
