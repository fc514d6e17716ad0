package kernel

import (
	"slices"

	"tithe/api"
	"tithe/budget"
	"tithe/edf"
	"tithe/fault"
)

// nobody is what edf.Pick answers, if no child has budget left.
const nobody = -1

// What slack.Give tells of a job that ends with its tick: layer 12's numbers, on which this layer doesn't stand itself.
const (
	jobDone = 1
	jobCut  = 2
)

// Tick is one real tick: what happened.
func (k *Kernel) Tick() ([]api.Mark, error) {
	now := k.Now()
	if now == api.MaxTicks {
		return nil, fault.Wrap(api.OpTick, 0, api.ErrTime)
	}
	last := k.descend()
	marks := k.charge(last, now)
	for n := range last.up() {
		n.clock++
		marks = append(marks, k.cross(n)...)
	}
	for place := range marks {
		marks[place].Tick = now
	}
	return marks, nil
}

// descend is the last node of the way that a tick goes: each one on it but the root has a tick less.
func (k *Kernel) descend() *node {
	last := k.root
way:
	for {
		switch place := edf.Pick(last.children()); place {
		case nobody:
			break way
		default:
			last = last.kids[place]
			// Who is picked has budget left: so no error comes.
			last.budget, _ = budget.Take(last.budget)
		}
	}
	return last
}

// charge gives a tick to the way's last node, and charges it along the way: who used it, and what became of the job.
func (k *Kernel) charge(last *node, now int) []api.Mark {
	used, ended := k.use(last, now)
	lent := used.Kind == api.MarkLent || used.Kind == api.MarkIdle
	// The way leads from the root down, and the root was given less than MaxTicks: so no error comes.
	k.accounts.Charge(last.path(), lent)
	if used.Task == 0 {
		k.idle++
	}
	if ended.Kind == 0 {
		return []api.Mark{used}
	}
	if ended.Node != 0 {
		// An error is let go: the chapter asks for that.
		k.accounts.Note(ended.Node, ended.Kind, ended.N > 0)
	}
	return []api.Mark{used, ended}
}

// use offers a tick to a node's tasks, then to the best-effort ones: who used it, and what became of the job (where that goes on, or nobody used the tick, a mark of no kind).
func (k *Kernel) use(last *node, now int) (used, ended api.Mark) {
	if task, kind, late := last.tasks.Offer(now); task != 0 {
		return api.Mark{Kind: api.MarkGiven, Node: last.handle, Task: task},
			api.Mark{Kind: kind, Node: last.handle, Task: task, N: late}
	}
	task, what, late, had := k.pool.Give(now)
	return api.Mark{Kind: k.lends(last, had), Node: last.handle, Task: task},
		api.Mark{Kind: ending(what), Task: task, N: late}
}

// lends is the kind of a tick that no task of a node used, and that a best-effort one had, or none.
func (k *Kernel) lends(last *node, had bool) int {
	switch {
	case last == k.root:
		return api.MarkFree
	case had:
		return api.MarkLent
	}
	return api.MarkIdle
}

// ending is the mark of what a tick did to a best-effort task's job; 0 where it goes on.
func ending(what int) int {
	switch what {
	case jobDone:
		return api.MarkDone
	case jobCut:
		return api.MarkCut
	}
	return 0
}

// cross lets those of a node's children cross their boundary that come to it with its clock.
func (k *Kernel) cross(n *node) []api.Mark {
	var marks []api.Mark
	// The children are gone over in a copy of their list: who goes is taken out of it.
	for _, kid := range slices.Clone(n.kids) {
		ended := kid.budget
		if ended.End != n.clock {
			continue
		}
		marks = append(marks, api.Mark{Kind: api.MarkEnd, Node: kid.handle, N: ended.Now.Q - ended.Left})
		// The time is its End, and one that a clock comes to: so no error comes.
		next, gone, _ := budget.Cross(ended, n.clock)
		switch {
		case gone:
			marks = append(marks, k.letGo(kid)...)
		case next.Now != ended.Now:
			marks = append(marks, api.Mark{Kind: api.MarkSwitch, Node: kid.handle, N: next.Now.Q})
			fallthrough
		default:
			kid.budget = next
		}
	}
	return marks
}

// letGo takes a node away, with all that is below it.
func (k *Kernel) letGo(n *node) []api.Mark {
	part := n.part()
	// An account that has open ones below it can't be closed: so the last ones come first.
	for _, gone := range slices.Backward(part) {
		k.accounts.Close(gone.handle)
	}
	n.parent.lose(n)
	marks := make([]api.Mark, len(part))
	for place, gone := range part {
		k.nodes.Drop(gone.handle)
		marks[place] = api.Mark{Kind: api.MarkGone, Node: gone.handle}
	}
	return marks
}
