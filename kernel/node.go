package kernel

import (
	"cmp"
	"iter"
	"slices"

	"tithe/api"
	"tithe/budget"
	"tithe/edf"
	"tithe/fixed"
	"tithe/handle"
	"tithe/leaf"
)

// node is a node that is there.
type node struct {
	handle api.Handle
	parent *node         // the root's: nil
	kids   []*node       // by their slots
	budget budget.Budget // the root's: the zero one
	clock  int
	tasks  *leaf.Leaf // the root's: without tasks for ever
}

// up leads from a node to the root, with both.
func (n *node) up() iter.Seq[*node] {
	return func(yield func(*node) bool) {
		for on := n; on != nil; on = on.parent {
			if !yield(on) {
				return
			}
		}
	}
}

// path is the handles from the root to a node, with both.
func (n *node) path() []api.Handle {
	var path []api.Handle
	for on := range n.up() {
		path = append(path, on.handle)
	}
	slices.Reverse(path)
	return path
}

// depth is how many steps a node is below the root.
func (n *node) depth() int { return len(n.path()) - 1 }

// isToGo tells whether a node, or one on the way to it, is dying.
func (n *node) isToGo() bool {
	for on := range n.up() {
		if on.budget.Dying {
			return true
		}
	}
	return false
}

// above is the parent's handle; the root's is 0.
func (n *node) above() api.Handle {
	if n.parent == nil {
		return 0
	}
	return n.parent.handle
}

// part is a node and all below it, each behind its parent, children by their slots. A tree has MaxNodes nodes at most: so few calls are nested.
func (n *node) part() []*node {
	part := []*node{n}
	for _, kid := range n.kids {
		part = append(part, kid.part()...)
	}
	return part
}

// adopt takes in a child that has its handle already: of one kind, handles are in the order of their slots.
func (n *node) adopt(kid *node) {
	n.kids = append(n.kids, kid)
	slices.SortFunc(n.kids, func(a, b *node) int { return cmp.Compare(a.handle, b.handle) })
}

// lose gives a child away.
func (n *node) lose(kid *node) {
	n.kids = slices.DeleteFunc(n.kids, func(one *node) bool { return one == kid })
}

// shares is what is reserved for each child, but for one (nil: for none).
func (n *node) shares(but *node) []int {
	var shares []int
	for _, kid := range n.kids {
		if kid == but {
			continue
		}
		// A budget that a node has may be: so no error comes.
		share, _ := budget.Reserved(kid.budget)
		shares = append(shares, share)
	}
	return shares
}

// fits tells whether the children reserve at most the whole, one of them, that is there already or is to come, with another budget.
func (n *node) fits(kid *node, b budget.Budget) bool {
	// Shares are never below 0: so no error comes.
	share, _ := budget.Reserved(b)
	fits, _ := fixed.Fits(n.shares(kid), share)
	return fits
}

// children is what is looked at when one of the children is picked.
func (n *node) children() []edf.Child {
	children := make([]edf.Child, len(n.kids))
	for place, kid := range n.kids {
		children[place] = edf.Child{Slot: handle.Slot(kid.handle), Left: kid.budget.Left, End: kid.budget.End}
	}
	return children
}

// handles are those of nodes, in their order.
func handles(nodes []*node) []api.Handle {
	l := make([]api.Handle, len(nodes))
	for place, n := range nodes {
		l[place] = n.handle
	}
	return l
}
