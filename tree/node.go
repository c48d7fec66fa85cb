package tree

import "garner/api"

// node is an item, with those below it to the left and those above it to the
// right, neither higher than the other by more than one: so however items are
// put, a key is found in few steps. A node is never turned once it is made: a
// put makes those on its way anew, and trees may share all others. No node is
// one without items.
type node struct {
	item   api.Item
	left   *node
	right  *node
	height int
}

// find is a key's node, if there is one.
func (n *node) find(key string) *node {
	for n != nil && n.item.Key != key {
		if key < n.item.Key {
			n = n.left
		} else {
			n = n.right
		}
	}
	return n
}

// with is the nodes as they are when an item is its key's.
func (n *node) with(x api.Item) *node {
	switch {
	case n == nil:
		return join(nil, x, nil)
	case x.Key < n.item.Key:
		return balance(n.left.with(x), n.item, n.right)
	case x.Key > n.item.Key:
		return balance(n.left, n.item, n.right.with(x))
	default:
		return join(n.left, x, n.right)
	}
}

// walk goes through the items of a range, in order, till see wants no more; it
// tells whether see still does.
func (n *node) walk(lo, hi string, see func(api.Item) bool) bool {
	if n == nil {
		return true
	}
	fromLo := n.item.Key >= lo
	belowHi := hi == "" || n.item.Key < hi
	if fromLo && !n.left.walk(lo, hi, see) {
		return false
	}
	if fromLo && belowHi && !see(n.item) {
		return false
	}
	return !belowHi || n.right.walk(lo, hi, see)
}

func (n *node) tall() int {
	if n == nil {
		return 0
	}
	return n.height
}

// join is a node of an item between two sides that are about as high.
func join(left *node, x api.Item, right *node) *node {
	return &node{item: x, left: left, right: right, height: 1 + max(left.tall(), right.tall())}
}

// balance is join of sides of which one may be higher by two.
func balance(left *node, x api.Item, right *node) *node {
	switch lean := left.tall() - right.tall(); {
	case lean > 1:
		return lowerLeft(left, x, right)
	case lean < -1:
		return lowerRight(left, x, right)
	default:
		return join(left, x, right)
	}
}

// lowerLeft is balance where the left side is higher by two.
func lowerLeft(left *node, x api.Item, right *node) *node {
	if mid := left.right; mid.tall() > left.left.tall() {
		return join(join(left.left, left.item, mid.left), mid.item, join(mid.right, x, right))
	}
	return join(left.left, left.item, join(left.right, x, right))
}

// lowerRight is balance where the right side is higher by two.
func lowerRight(left *node, x api.Item, right *node) *node {
	if mid := right.left; mid.tall() > right.right.tall() {
		return join(join(left, x, mid.left), mid.item, join(mid.right, right.item, right.right))
	}
	return join(join(left, x, right.left), right.item, right.right)
}
