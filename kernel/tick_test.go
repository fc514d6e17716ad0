package kernel

import (
	"slices"
	"testing"

	"tithe/api"
)

// marked holds the marks of the next tick against those that the chapter asks for; each has that tick.
func (p *pair) marked(want ...api.Mark) {
	p.t.Helper()
	now := p.k.Now()
	for i := range want {
		want[i].Tick = now
	}
	got, number := p.tick()
	if !slices.Equal(got, want) || number != 0 {
		p.t.Fatalf("tick %d: %v, not %v (%v)", now, got, want, number)
	}
	if p.k.Now() != now+1 {
		p.t.Fatalf("Now: %d behind %d", p.k.Now(), now)
	}
	p.check()
}

// The marks, with the fields that the chapter names for them.
func free(task api.Handle) api.Mark {
	return api.Mark{Kind: api.MarkFree, Node: rootHandle, Task: task}
}
func given(node, task api.Handle) api.Mark {
	return api.Mark{Kind: api.MarkGiven, Node: node, Task: task}
}
func lent(node, task api.Handle) api.Mark {
	return api.Mark{Kind: api.MarkLent, Node: node, Task: task}
}
func idle(node api.Handle) api.Mark { return api.Mark{Kind: api.MarkIdle, Node: node} }
func done(node, task api.Handle, late int) api.Mark {
	return api.Mark{Kind: api.MarkDone, Node: node, Task: task, N: late}
}
func cut(node, task api.Handle, late int) api.Mark {
	return api.Mark{Kind: api.MarkCut, Node: node, Task: task, N: late}
}
func ended(node api.Handle, n int) api.Mark {
	return api.Mark{Kind: api.MarkEnd, Node: node, N: n}
}
func switched(node api.Handle, q int) api.Mark {
	return api.Mark{Kind: api.MarkSwitch, Node: node, N: q}
}
func gone(node api.Handle) api.Mark { return api.Mark{Kind: api.MarkGone, Node: node} }

// accounts holds a node's account, and what was closed below it, against what they must be.
func (p *pair) accounts(h api.Handle, acc, closed api.Account) {
	p.t.Helper()
	n, number := p.node(h)
	if number != 0 || n.Acc != acc || n.Closed != closed {
		p.t.Fatalf("accounts of %v: %v %v (%v), not %v %v", h, n.Acc, n.Closed, number, acc, closed)
	}
}

func TestTickOfNoNode(t *testing.T) {
	p := made(t)
	p.marked(free(0))
	if p.k.Idle() != 1 {
		t.Errorf("Idle: %d", p.k.Idle())
	}
	s := p.tasks(0, 5)
	p.marked(free(0))
	p.jobs(0, s, api.Job{Length: 2})
	p.marked(free(s))
	p.marked(free(s), done(0, s, 0))
	p.marked(free(0))
	if p.k.Idle() != 3 {
		t.Errorf("Idle: %d", p.k.Idle())
	}
	// What is free is the root's own, and not lent.
	p.accounts(rootHandle, api.Account{Given: 5, Own: 5}, api.Account{})
	if got, _ := p.taskOf(0, s); got.Acc != (api.Account{Given: 2, Own: 2, Done: 1}) {
		t.Errorf("the task: %v", got)
	}
}

func TestTickOfNoTask(t *testing.T) {
	p := made(t)
	a := p.makes(rootHandle, 2, 4)
	s := p.tasks(0, 0)
	p.marked(idle(a))
	p.jobs(0, s, api.Job{Length: 3, Due: 1})
	p.marked(lent(a, s))
	p.marked(free(s))
	p.marked(free(s), done(0, s, 2), ended(a, 2))
	p.marked(idle(a))
	if p.k.Idle() != 2 {
		t.Errorf("Idle: %d", p.k.Idle())
	}
	p.accounts(rootHandle, api.Account{Given: 5, Own: 2}, api.Account{})
	p.accounts(a, api.Account{Given: 3, Own: 3, Lent: 3}, api.Account{})
}

func TestTickOfJobs(t *testing.T) {
	p := made(t)
	a := p.makes(rootHandle, 1, 1)
	x, y := p.tasks(a, 2), p.tasks(a, 1)
	// In time, just; late by one; without a time; cut in time and late.
	p.jobs(a, x, api.Job{Length: 1, Due: 1})
	p.marked(given(a, x), done(a, x, 0), ended(a, 1))
	p.jobs(a, x, api.Job{Length: 2, Due: 1})
	p.marked(given(a, x), ended(a, 1))
	p.marked(given(a, x), done(a, x, 1), ended(a, 1))
	p.jobs(a, x, api.Job{Length: 9, Cap: 2, Due: 2})
	p.marked(given(a, x), ended(a, 1))
	p.marked(given(a, x), cut(a, x, 0), ended(a, 1))
	p.jobs(a, x, api.Job{Length: 9, Cap: 3, Due: 1})
	p.marked(given(a, x), ended(a, 1))
	// The one with the lesser number goes ahead.
	p.jobs(a, y, api.Job{Length: 2})
	p.marked(given(a, y), ended(a, 1))
	p.marked(given(a, y), done(a, y, 0), ended(a, 1))
	p.marked(given(a, x), ended(a, 1))
	p.marked(given(a, x), cut(a, x, 4), ended(a, 1))
	p.accounts(a, api.Account{Given: 10, Own: 10, Done: 3, Cut: 2, Late: 2}, api.Account{})
	if got, _ := p.taskOf(a, x); got.Acc != (api.Account{Given: 8, Own: 8, Done: 2, Cut: 2, Late: 2}) {
		t.Errorf("x: %v", got)
	}
	p.wants("Untask", p.untask(a, x), 0)
	p.accounts(a, api.Account{Given: 10, Own: 10, Done: 3, Cut: 2, Late: 2}, api.Account{})
	if p.k.Idle() != 0 {
		t.Errorf("Idle: %d", p.k.Idle())
	}
}

func TestTickOfBestEffortJobs(t *testing.T) {
	p := made(t)
	a := p.makes(rootHandle, 1, 3)
	x, y := p.tasks(0, 1), p.tasks(0, 1)
	p.jobs(0, x, api.Job{Length: 3, Due: 3})
	p.jobs(0, y, api.Job{Length: 5, Cap: 2, Due: 4})
	p.jobs(0, y, api.Job{Length: 5, Cap: 1, Due: 4})
	p.marked(lent(a, x))
	p.marked(free(y))
	p.marked(free(x), ended(a, 1))
	p.marked(lent(a, y), cut(0, y, 0))
	p.marked(free(x), done(0, x, 2))
	p.marked(free(y), cut(0, y, 2), ended(a, 1))
	// What becomes of best-effort jobs is in no node's account.
	p.accounts(rootHandle, api.Account{Given: 6, Own: 4}, api.Account{})
	p.accounts(a, api.Account{Given: 2, Own: 2, Lent: 2}, api.Account{})
}

// TestTickOfTasksThatCannotBeMixedUp: a node's task and a best-effort one are ready at once, and another node's, too.
func TestTickOfTasksThatCannotBeMixedUp(t *testing.T) {
	p := made(t)
	a, b := p.makes(rootHandle, 1, 2), p.makes(rootHandle, 1, 4)
	x, s := p.tasks(a, 31), p.tasks(0, 0)
	p.jobs(a, x, api.Job{Length: 2})
	p.jobs(0, s, api.Job{Length: 2})
	p.marked(given(a, x))
	p.marked(lent(b, s), ended(a, 1))
	p.marked(given(a, x), done(a, x, 0))
	p.marked(free(s), done(0, s, 0), ended(a, 1), ended(b, 1))
}

func TestTheChoice(t *testing.T) {
	// By the end of the period, whatever the slots.
	p := made(t)
	a, b, c := p.makes(rootHandle, 1, 6), p.makes(rootHandle, 1, 5), p.makes(rootHandle, 1, 4)
	p.marked(idle(c))
	p.marked(idle(b))
	p.marked(idle(a))
	p.marked(free(0), ended(c, 1))
	p.marked(idle(c), ended(b, 1))
	p.marked(idle(b), ended(a, 1))
	// Of equal ends the lowest slot, be it the node that came last or not.
	p = made(t)
	a, b, c = p.makes(rootHandle, 1, 3), p.makes(rootHandle, 1, 3), p.makes(rootHandle, 1, 4)
	p.wants("Delete", p.remove(a), 0)
	p.marked(idle(a))
	p.marked(idle(b))
	p.marked(idle(c), ended(a, 1), gone(a), ended(b, 1))
	d := p.makes(rootHandle, 1, 3)
	if d >= b {
		t.Fatal("d is to have a's slot")
	}
	p.marked(idle(d), ended(c, 1))
	p.marked(idle(b))
	// Ends are looked at, not periods: what began later ends later.
	p = made(t)
	a = p.makes(rootHandle, 3, 8)
	p.marked(idle(a))
	p.marked(idle(a))
	b = p.makes(rootHandle, 1, 7)
	p.marked(idle(a))
	p.marked(idle(b))
	p.marked(free(0))
	p = made(t)
	a = p.makes(rootHandle, 3, 8)
	p.marked(idle(a))
	b = p.makes(rootHandle, 1, 6)
	p.marked(idle(b))
}

// TestTheChoiceAmongAll: as many children as there may be, by their slots, and the other way round by their ends.
func TestTheChoiceAmongAll(t *testing.T) {
	p, q := made(t), made(t)
	var alike, rising []api.Handle
	for i := range mostNodes - 1 {
		alike = append(alike, p.makes(rootHandle, 1, mostNodes))
		rising = append(rising, q.makes(rootHandle, 1, 3*mostNodes-i))
	}
	slices.Reverse(rising)
	for i := range mostNodes - 1 {
		p.marked(idle(alike[i]))
		q.marked(idle(rising[i]))
	}
	var ends []api.Mark
	for _, h := range alike {
		ends = append(ends, ended(h, 1))
	}
	p.marked(append([]api.Mark{free(0)}, ends...)...)
	q.marked(free(0))
}

// TestTheChoiceBelow: at each of three levels the choice is by the clock of the node above.
func TestTheChoiceBelow(t *testing.T) {
	p := made(t)
	a, b := p.makes(rootHandle, 2, 4), p.makes(rootHandle, 1, 3)
	c, d := p.makes(a, 1, 4), p.makes(a, 1, 2)
	e, f := p.makes(d, 1, 2), p.makes(d, 1, 3)
	p.marked(idle(b))                           // of a and b b's period ends first
	p.marked(idle(e))                           // a, d, e: all clocks begin at 0
	p.marked(idle(c), ended(d, 1), ended(b, 1)) // d has had its tick; a's clock is 2: d's period ends
	p.marked(idle(b), ended(a, 2))
	p.marked(idle(f), ended(e, 1))
	p.accounts(a, api.Account{Given: 3, Own: 0}, api.Account{})
	p.accounts(d, api.Account{Given: 2}, api.Account{})
	p.accounts(c, api.Account{Given: 1, Own: 1, Lent: 1}, api.Account{})
	p.accounts(rootHandle, api.Account{Given: 5}, api.Account{})
	if n, _ := p.node(d); n.Clock != 2 || n.Start != 2 || n.End != 4 || n.Left != 0 {
		t.Errorf("d: %v", n)
	}
}

// TestATickBelow: a tick that no child can have is the node's own, at each level.
func TestATickBelow(t *testing.T) {
	p := made(t)
	a := p.makes(rootHandle, 3, 4)
	b := p.makes(a, 2, 3)
	c := p.makes(b, 1, 2)
	x, y, z := p.tasks(a, 0), p.tasks(b, 0), p.tasks(c, 0)
	for at, task := range map[api.Handle]api.Handle{a: x, b: y, c: z} {
		p.jobs(at, task, api.Job{Length: 100})
	}
	p.marked(given(c, z))
	p.marked(given(b, y), ended(c, 1))
	p.marked(given(a, x), ended(b, 2))
	p.marked(free(0), ended(a, 3))
	p.marked(given(c, z))
	p.accounts(b, api.Account{Given: 3, Own: 1}, api.Account{})
	p.accounts(a, api.Account{Given: 4, Own: 1}, api.Account{})
	p.accounts(rootHandle, api.Account{Given: 5, Own: 1}, api.Account{})
}

// TestBoundariesOfOneTick: several children by their slots, on several levels from the lowest up; switches and those that go among them.
func TestBoundariesOfOneTick(t *testing.T) {
	p := made(t)
	a := p.makes(rootHandle, 2, 4)
	b, c, d := p.makes(rootHandle, 1, 8), p.makes(rootHandle, 1, 4), p.makes(rootHandle, 1, 8)
	e, f := p.makes(a, 1, 2), p.makes(a, 1, 4)
	g, h := p.makes(e, 1, 1), p.makes(f, 1, 2)
	p.wants("Resize", p.resize(c, api.Reserve{Q: 1, P: 5}), 0)
	p.wants("Resize", p.resize(a, api.Reserve{Q: 1, P: 4}), 0)
	p.wants("Resize", p.resize(g, api.Reserve{Q: 1, P: 2}), 0)
	p.wants("Delete", p.remove(f), 0)
	p.marked(idle(g), ended(g, 1), switched(g, 1))
	p.marked(idle(h), ended(e, 1))
	p.marked(idle(c))
	p.marked(idle(b), ended(a, 2), switched(a, 1), ended(c, 1), switched(c, 1))
	p.marked(idle(g))
	p.marked(idle(d))
	p.marked(idle(c))
	p.marked(free(0), ended(a, 1), ended(b, 1), ended(d, 1))
	p.wants("Delete", p.remove(d), 0)
	p.wants("Delete", p.remove(b), 0)
	p.wants("Resize", p.resize(a, api.Reserve{Q: 2, P: 4}), 0)
	p.wants("Delete", p.remove(c), 0)
	// a's clock comes to 4, where e's period ends, and f's, that goes with h; then the root's comes to 9, where c goes.
	p.marked(idle(a), ended(e, 1), ended(f, 1), gone(f), gone(h), ended(c, 1), gone(c))
	p.marked(idle(b))
	p.marked(idle(d))
	p.marked(free(0), ended(a, 1), switched(a, 2))
	p.marked(idle(e), ended(g, 1))
	p.marked(idle(a), ended(e, 1))
	p.marked(free(0))
	p.marked(free(0), ended(a, 2), ended(b, 1), gone(b), ended(d, 1), gone(d))
}

// TestASwitchToTheSameBudget: another period alone is another reservation; Q is told.
func TestASwitchToTheSameBudget(t *testing.T) {
	p := made(t)
	a := p.makes(rootHandle, 1, 2)
	p.wants("Resize", p.resize(a, api.Reserve{Q: 1, P: 3}), 0)
	p.marked(idle(a))
	p.marked(free(0), ended(a, 1), switched(a, 1))
	p.wants("Resize", p.resize(a, api.Reserve{Q: 2, P: 6}), 0)
	p.wants("Resize", p.resize(a, api.Reserve{Q: 1, P: 3}), 0)
	p.marked(idle(a))
	p.marked(free(0))
	p.marked(free(0), ended(a, 1))
	// One that is dying goes, though another reservation is pending.
	p.wants("Resize", p.resize(a, api.Reserve{Q: 3, P: 3}), 0)
	p.wants("Delete", p.remove(a), 0)
	p.marked(idle(a))
	p.marked(free(0))
	p.marked(free(0), ended(a, 1), gone(a))
}

// TestANodeGoes: with all below it, in the order of All; the accounts are closed.
func TestANodeGoes(t *testing.T) {
	p := made(t)
	junk := p.makes(rootHandle, 1, 64)
	a := p.makes(rootHandle, 3, 4)
	b := p.makes(a, 1, 2)
	c := p.makes(b, 1, 2)
	p.wants("Delete", p.remove(junk), 0)
	p.ticks(62)
	x := p.tasks(b, 0)
	p.jobs(b, x, api.Job{Length: 100})
	p.jobs(b, x, api.Job{Length: 2})
	s := p.tasks(0, 0)
	p.jobs(0, s, api.Job{Length: 100})
	p.ticks(2)
	// junk's slot is given again: a child with a lower slot than its parent, and one with a higher one.
	d, e := p.makes(a, 1, 4), p.makes(c, 1, 2)
	if d != nodeAt(1, 2) || e != nodeAt(5, 1) {
		t.Fatal(d, e)
	}
	p.wants("Delete", p.remove(a), 0)
	p.ticks(3)
	before := map[api.Handle]api.Node{}
	for _, h := range p.k.All() {
		before[h], _ = p.node(h)
	}
	p.marked(free(s), ended(a, 3), gone(a), gone(d), gone(b), gone(c), gone(e))
	root, _ := p.node(rootHandle)
	closed := before[rootHandle].Closed
	closed.Given += before[a].Acc.Given
	for _, h := range []api.Handle{a, b, c, d, e} {
		for _, acc := range []api.Account{before[h].Acc, before[h].Closed} {
			closed.Own += acc.Own
			closed.Lent += acc.Lent
			closed.Done += acc.Done
			closed.Cut += acc.Cut
			closed.Late += acc.Late
		}
		if _, number := p.node(h); number != api.ErrHandle {
			t.Errorf("%v: %v", h, number)
		}
		p.wants("a task's node", p.job(h, x, api.Job{Length: 1}), api.ErrHandle)
	}
	if root.Closed != closed || root.Acc.Given != 68 || root.Acc.Given != root.Acc.Own+root.Closed.Given {
		t.Errorf("the root: %v, not with %v", root, closed)
	}
	// The slots are free, the lowest one first; nothing of what went is there.
	if h := p.makes(rootHandle, 1, 1); h != nodeAt(1, 3) {
		t.Errorf("the next one: %v", h)
	}
	n, _ := p.node(nodeAt(1, 3))
	if !sameNode(n, api.Node{Parent: rootHandle, Now: api.Reserve{Q: 1, P: 1}, Left: 1, Start: 68, End: 69}) {
		t.Errorf("the next one: %v", n)
	}
}

// TestANodeGoesInTheMiddle: what was closed below a node is closed with it, too.
func TestANodeGoesInTheMiddle(t *testing.T) {
	p := made(t)
	a := p.makes(rootHandle, 1, 1)
	b := p.makes(a, 1, 2)
	c := p.makes(b, 1, 1)
	p.wants("Delete", p.remove(c), 0)
	p.marked(idle(c), ended(c, 1), gone(c), ended(a, 1))
	p.accounts(b, api.Account{Given: 1}, api.Account{Given: 1, Own: 1, Lent: 1})
	p.wants("Delete", p.remove(b), 0)
	p.marked(idle(a), ended(b, 1), gone(b), ended(a, 1))
	p.accounts(a, api.Account{Given: 2, Own: 1, Lent: 1}, api.Account{Given: 1, Own: 1, Lent: 1})
	p.wants("Delete", p.remove(a), 0)
	p.marked(idle(a), ended(a, 1), gone(a))
	p.accounts(rootHandle, api.Account{Given: 3}, api.Account{Given: 3, Own: 3, Lent: 3})
	p.marked(free(0))
	p.accounts(rootHandle, api.Account{Given: 4, Own: 1}, api.Account{Given: 3, Own: 3, Lent: 3})
}

// TestANodeGoesInItsOwnTick: the tick goes to what goes behind it.
func TestANodeGoesInItsOwnTick(t *testing.T) {
	p := made(t)
	a := p.makes(rootHandle, 1, 1)
	b := p.makes(a, 1, 1)
	x := p.tasks(b, 0)
	p.jobs(b, x, api.Job{Length: 1, Due: 1})
	p.wants("Delete", p.remove(a), 0)
	p.marked(given(b, x), done(b, x, 0), ended(b, 1), ended(a, 1), gone(a), gone(b))
	p.accounts(rootHandle, api.Account{Given: 1}, api.Account{Given: 1, Own: 1, Done: 1})
	p.marked(free(0))
}

// TestDyingIsSupplied: up to its boundary, with all below it.
func TestDyingIsSupplied(t *testing.T) {
	p := made(t)
	a := p.makes(rootHandle, 2, 4)
	b := p.makes(a, 1, 2)
	p.wants("Delete", p.remove(a), 0)
	p.marked(idle(b))
	p.marked(idle(a), ended(b, 1))
	p.marked(free(0))
	p.marked(free(0), ended(a, 2), gone(a), gone(b))
}

// atTheEnd is a pair whose time is nearly up: so many ticks are left.
func atTheEnd(t *testing.T, left int) *pair {
	t.Helper()
	p := made(t)
	a := p.makes(rootHandle, 1, 2)
	p.makes(a, 1, 2)
	x, s := p.tasks(a, 0), p.tasks(0, 0)
	p.jobs(a, x, api.Job{Length: 10})
	p.jobs(0, s, api.Job{Length: 10, Due: 3})
	s0 := p.k.State()
	now := mostTicks - left
	s0.Now, s0.Nodes[0].Clock = now, now
	s0.Nodes[0].Acc = api.Account{Given: now, Own: now}
	s0.Nodes[1].Budget.Start, s0.Nodes[1].Budget.End = now, now+2
	return loaded(t, s0)
}

func TestTheLastTicks(t *testing.T) {
	p := atTheEnd(t, 2)
	root := p.k.All()
	p.ticks(1)
	marks := p.ticks(1)
	if p.k.Now() != mostTicks || !slices.Contains(marks, api.Mark{Tick: mostTicks - 1, Kind: api.MarkEnd, Node: root[1], N: 1}) {
		t.Errorf("Now %d, %v", p.k.Now(), marks)
	}
	p.check()
	n, _ := p.node(root[1])
	if n.Start != mostTicks || n.End != mostTicks+2 || n.Left != 1 {
		t.Errorf("behind the last boundary: %v", n)
	}
	for range 3 {
		p.refused("Tick", api.ErrTime, func() api.Errno {
			marks, number := p.tick()
			if len(marks) > 0 {
				t.Errorf("marks beside an error: %v", marks)
			}
			return number
		})
	}
	// All else goes on there.
	b := p.makes(rootHandle, 1, 2)
	if n, _ := p.node(b); n.Start != mostTicks || n.End != mostTicks+2 {
		t.Errorf("made at the end: %v", n)
	}
	x := p.tasks(b, 3)
	p.jobs(b, x, api.Job{Length: 1, Due: mostTicks})
	p.jobs(0, p.k.Slack()[0], api.Job{Length: 1, Due: mostTicks})
	if got, _ := p.taskOf(b, x); got.Jobs[0].At != mostTicks {
		t.Errorf("a job at the end: %v", got)
	}
	p.wants("Resize", p.resize(b, api.Reserve{Q: 1, P: 3}), 0)
	p.wants("Delete", p.remove(root[1]), 0)
	p.wants("Untask", p.untask(b, x), 0)
	p.check()
	p.again().check()
	p.twin().check()
}

// TestTurns: best-effort tasks of one priority take turns, be the ticks lent or free.
func TestTurns(t *testing.T) {
	p := made(t)
	a := p.makes(rootHandle, 1, 2)
	x, y, z := p.tasks(0, 1), p.tasks(0, 1), p.tasks(0, 0)
	for _, s := range []api.Handle{x, y} {
		p.jobs(0, s, api.Job{Length: 9})
	}
	p.marked(lent(a, x))
	p.marked(free(y), ended(a, 1))
	p.marked(lent(a, x))
	p.jobs(0, z, api.Job{Length: 1})
	p.marked(free(z), done(0, z, 0), ended(a, 1))
	p.marked(lent(a, x))
	p.marked(free(y), ended(a, 1))
	if last := p.k.State().Last; last != 1 {
		t.Errorf("Last: %d", last)
	}
}

// TestClone: two that were one once are worked on apart.
func TestClone(t *testing.T) {
	x := smallOf(t)
	twin, again := x.twin(), x.again()
	if twin.k == x.k {
		t.Fatal("Clone answers the kernel itself")
	}
	twin.check()
	again.check()
	before := x.k.State()
	for _, p := range []*pair{twin, again} {
		p.wants("Delete", p.remove(x.a), 0)
		p.wants("Resize", p.resize(x.b, api.Reserve{Q: 1, P: 7}), 0)
		p.wants("Untask", p.untask(0, x.s), 0)
		p.jobs(x.b, x.tb, api.Job{Length: 3})
		p.tasks(0, 4)
		p.tasks(x.b, 4)
		p.makes(x.b, 1, 2)
		p.ticks(9)
		p.check()
		if after := x.k.State(); !sameState(before, after) {
			t.Fatalf("worked on the other one, %v is %v", before, after)
		}
	}
	kept := twin.k.State()
	x.ticks(12)
	x.wants("Delete", x.remove(x.b), 0)
	x.jobs(x.a, x.ta, api.Job{Length: 3})
	x.ticks(4)
	x.check()
	if after := twin.k.State(); !sameState(kept, after) {
		t.Fatalf("worked on the first one, %v is %v", kept, after)
	}
	twin.ticks(3)
	twin.check()
	// A clone of a clone.
	third := twin.twin()
	third.ticks(5)
	third.check()
	twin.check()
}
