package kernel

import (
	"slices"

	"tithe/api"
	"tithe/budget"
	"tithe/fixed"
	"tithe/handle"
	"tithe/leaf"
	"tithe/ledger"
	"tithe/slack"
	"tithe/slots"
)

// LeafState is a node's tasks, or the best-effort ones: the slots' generations, whether they are taken, the tasks.
type LeafState struct {
	Gens  []int
	Taken []bool
	Tasks []api.Task
}

// NodeState is a node's state.
type NodeState struct {
	Handle, Parent api.Handle
	Budget         budget.Budget
	Clock          int
	Acc, Closed    api.Account
	Leaf           LeafState
}

// State is a kernel's state: its nodes, each behind its parent, children by their slots.
type State struct {
	Now, Idle int
	Gens      []int
	Nodes     []NodeState
	Slack     LeafState
	Last      int // the slot of the best-effort task that had a tick last; -1: none
}

// State is the kernel's state.
func (k *Kernel) State() State {
	s := State{Now: k.Now(), Idle: k.idle}
	s.Gens, _ = k.nodes.Slots()
	for _, n := range k.root.part() {
		s.Nodes = append(s.Nodes, k.stateOf(n))
	}
	s.Slack.Gens, s.Slack.Taken, s.Slack.Tasks, s.Last = k.pool.Save()
	return s
}

// Load is the kernel of a state.
func Load(s State) (*Kernel, error) {
	if s.Now < 0 || s.Now > api.MaxTicks || s.Idle < 0 || s.Idle > s.Now {
		return nil, api.ErrState
	}
	k := &Kernel{idle: s.Idle}
	// In this order: each of these stands on what those ahead of it have found.
	if !k.loadTree(s) || !k.loadNodes(s) || !k.loadAccounts(s) || !k.loadPool(s) {
		return nil, api.ErrState
	}
	return k, nil
}

// stateOf is the state of a node.
func (k *Kernel) stateOf(n *node) NodeState {
	s := NodeState{Handle: n.handle, Parent: n.above(), Budget: n.budget, Clock: n.clock}
	// The account of a node that is there is open.
	s.Acc, s.Closed, _ = k.accounts.Of(n.handle)
	if n != k.root {
		s.Leaf.Gens, s.Leaf.Taken, s.Leaf.Tasks = n.tasks.Save()
	}
	return s
}

// loadTree lays the nodes into their slots and below their parents; whether that can be.
func (k *Kernel) loadTree(s State) bool {
	nodes, err := loadSlots(s)
	if err != nil || len(s.Nodes) == 0 {
		return false
	}
	for place, state := range s.Nodes {
		n, err := nodes.Get(state.Handle)
		if err != nil {
			return false
		}
		n.handle = state.Handle
		if place == 0 {
			k.root = n
			continue
		}
		if n.parent, err = nodes.Get(state.Parent); err != nil {
			return false
		}
		n.parent.adopt(n)
	}
	k.nodes = nodes
	// What is not below the root, or stands ahead of its parent, isn't in this order: so ways up end at the root from here on.
	return isRoot(s.Nodes[0]) && slices.EqualFunc(k.All(), s.Nodes, func(h api.Handle, state NodeState) bool { return h == state.Handle })
}

// loadSlots is the table of a state's nodes, of which nothing is known yet.
func loadSlots(s State) (*slots.Table[*node], error) {
	taken := make([]bool, api.MaxNodes)
	var nodes []*node
	for _, state := range s.Nodes {
		slot := handle.Slot(state.Handle)
		if slot < 0 || slot >= api.MaxNodes {
			return nil, api.ErrState
		}
		taken[slot] = true
		nodes = append(nodes, &node{})
	}
	// Where two nodes have one slot there are more of them than slots that are taken: that is refused here, too.
	return slots.Load(handle.KindNode, s.Gens, taken, nodes)
}

// isRoot tells whether a state's first node is the root, that has no parent, no reservation and no tasks.
func isRoot(s NodeState) bool {
	root, _ := handle.Make(handle.KindNode, 0, 1)
	if s.Handle != root || s.Parent != 0 || s.Budget != (budget.Budget{}) {
		return false
	}
	return len(s.Leaf.Gens) == 0 && len(s.Leaf.Taken) == 0 && len(s.Leaf.Tasks) == 0
}

// loadNodes gives the nodes of a tree, each behind its parent, what they have; whether that can be.
func (k *Kernel) loadNodes(s State) bool {
	for place, n := range k.root.part() {
		state := s.Nodes[place]
		n.budget, n.clock = state.Budget, state.Clock
		if n == k.root {
			n.tasks = leaf.New()
			continue
		}
		var err error
		if n.tasks, err = leaf.Load(state.Leaf.Gens, state.Leaf.Taken, state.Leaf.Tasks); err != nil {
			return false
		}
		if !n.runs() || !isPast(state.Leaf.Tasks, s.Now) {
			return false
		}
	}
	for _, n := range k.root.part() {
		if fits, _ := fixed.Fits(n.shares(nil), 0); !fits {
			return false
		}
	}
	return k.root.clock == s.Now
}

// runs tells whether a node below the root is not too deep, and in a period of its reservation, by its parent's clock.
func (n *node) runs() bool {
	if n.depth() > api.MaxDepth || budget.Valid(n.budget) != nil {
		return false
	}
	return n.budget.Start <= n.parent.clock && n.parent.clock < n.budget.End
}

// isPast tells whether tasks were given no more ticks than there were, and their jobs came by now.
func isPast(tasks []api.Task, now int) bool {
	for _, t := range tasks {
		if t.Acc.Given > now {
			return false
		}
		for _, job := range t.Jobs {
			if job.At > now {
				return false
			}
		}
	}
	return true
}

// loadAccounts opens the nodes' accounts; whether they can be.
func (k *Kernel) loadAccounts(s State) bool {
	k.accounts = ledger.New(k.root.handle)
	for _, state := range s.Nodes {
		if state.Handle != k.root.handle {
			// Each one stands behind its parent: so no error comes.
			k.accounts.Open(state.Handle, state.Parent)
		}
		// An account's numbers are from 0 to MaxTicks: so a clock that is one of them is that, too.
		if k.accounts.Load(state.Handle, state.Acc, state.Closed) != nil || state.Acc.Given != state.Clock {
			return false
		}
		if !isSound(state.Acc) || !isSound(state.Closed) {
			return false
		}
	}
	return k.accounts.Even()
}

// isSound tells whether an account's numbers can be together: each job ends with a tick that is the node's own, and not lent.
func isSound(a api.Account) bool {
	return a.Lent <= a.Own && a.Done+a.Cut <= a.Own-a.Lent && a.Late <= a.Done+a.Cut
}

// loadPool takes in the best-effort tasks; whether they can be.
func (k *Kernel) loadPool(s State) bool {
	var err error
	k.pool, err = slack.Load(s.Slack.Gens, s.Slack.Taken, s.Slack.Tasks, s.Last)
	return err == nil && isPast(s.Slack.Tasks, s.Now)
}
