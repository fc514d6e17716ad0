package kernel

import (
	"math"
	"slices"
	"testing"

	"tithe/api"
)

// reservations are such that may be, and such that may not, at their bounds and beyond.
var reservations = []api.Reserve{
	{Q: 1, P: 1}, {Q: 1, P: 2}, {Q: 2, P: 2}, {Q: 3, P: 10}, {Q: 1, P: mostPeriod}, {Q: mostPeriod, P: mostPeriod}, {Q: mostPeriod - 1, P: mostPeriod},
	{}, {Q: 0, P: 1}, {Q: 1, P: 0}, {Q: -1, P: 1}, {Q: 1, P: -1}, {Q: -1, P: -1}, {Q: 2, P: 1}, {Q: 3, P: 2}, {Q: 1, P: mostPeriod + 1},
	{Q: mostPeriod + 1, P: mostPeriod + 1}, {Q: mostPeriod + 1, P: mostPeriod}, {Q: math.MaxInt, P: math.MaxInt}, {Q: math.MinInt, P: math.MinInt},
	{Q: math.MinInt, P: 1}, {Q: 1, P: math.MaxInt}, {Q: 1, P: 1<<32 + 1}, {Q: 1 << 32, P: 1},
}

// strangers are handles that name no node and no task of a kernel with few of them.
var strangers = []api.Handle{
	-1, 1, 2, math.MinInt, math.MaxInt, -rootHandle, rootHandle + 1, rootHandle - 1, rootHandle + 1<<48, rootHandle + math.MinInt,
	nodeAt(0, 2), nodeAt(1, lastGen), nodeAt(mostNodes-1, 1), nodeAt(mostNodes, 1), nodeAt(mostNodes+1, 1), nodeAt(65535, 1), nodeAt(65536, 1),
	taskAt(0, 3), taskAt(mostTasks, 1), taskAt(0, lastGen), slackAt(0, 3), slackAt(mostSlack, 1), api.Handle(4*kindFactor + 1), kindFactor, kindFactor - 1,
}

// small is a pair with a few nodes and tasks, and a handle of a node, of a task and of a best-effort task that have gone.
type small struct {
	*pair
	a, b, c, d             api.Handle // a and b below the root, c below a, d below c
	ta, tb, tc, s          api.Handle
	goneNode, goneTask, gs api.Handle
}

// smallOf is one.
func smallOf(t *testing.T) small {
	t.Helper()
	p := made(t)
	x := small{pair: p}
	x.goneNode = p.makes(rootHandle, 1, 1)
	p.wants("Delete", p.remove(x.goneNode), 0)
	p.ticks(1)
	x.a, x.b = p.makes(rootHandle, 1, 2), p.makes(rootHandle, 1, 4)
	x.c = p.makes(x.a, 1, 3)
	x.d = p.makes(x.c, 2, 2)
	x.goneTask = p.tasks(x.a, 1)
	p.wants("Untask", p.untask(x.a, x.goneTask), 0)
	x.ta, x.tb, x.tc = p.tasks(x.a, 3), p.tasks(x.b, 0), p.tasks(x.c, 31)
	x.gs = p.tasks(0, 2)
	p.wants("Untask", p.untask(0, x.gs), 0)
	x.s = p.tasks(0, 2)
	p.jobs(x.a, x.ta, api.Job{Length: 2, Due: 3})
	p.jobs(x.b, x.tb, api.Job{Length: 9, Cap: 2})
	p.jobs(0, x.s, api.Job{Length: 4})
	p.ticks(5)
	p.check()
	return x
}

func TestExample(t *testing.T) {
	p := made(t)
	root := p.k.Root()
	a, err := p.k.Create(root, api.Reserve{Q: 1, P: 2})
	if a != nodeAt(1, 1) || err != nil {
		t.Fatal(a, err)
	}
	b, err := p.k.Create(root, api.Reserve{Q: 1, P: 4})
	if b != nodeAt(2, 1) || err != nil {
		t.Fatal(b, err)
	}
	want := [][]api.Mark{
		{{Tick: 0, Kind: api.MarkIdle, Node: a}},
		{{Tick: 1, Kind: api.MarkIdle, Node: b}, {Tick: 1, Kind: api.MarkEnd, Node: a, N: 1}},
		{{Tick: 2, Kind: api.MarkIdle, Node: a}},
		{{Tick: 3, Kind: api.MarkFree, Node: root}, {Tick: 3, Kind: api.MarkEnd, Node: a, N: 1}, {Tick: 3, Kind: api.MarkEnd, Node: b, N: 1}},
	}
	for i, marks := range want {
		if got, err := p.k.Tick(); !slices.Equal(got, marks) || err != nil {
			t.Fatalf("tick %d: %v %v, not %v", i, got, err, marks)
		}
	}
	c, err := p.k.Create(root, api.Reserve{Q: 1, P: 4})
	if c != nodeAt(3, 1) || err != nil {
		t.Fatal(c, err)
	}
	if units, err := p.k.Reserved(root); units != whole || err != nil {
		t.Fatal(units, err)
	}
	d, err := p.k.Create(root, api.Reserve{Q: 1, P: 1048576})
	checkFault(t, err, api.OpCreate, root, api.ErrOverload)
	if d != 0 {
		t.Fatal(d)
	}
}

// TestDocExamples: examples 3 and 4 of DOC.md.
func TestDocExamples(t *testing.T) {
	p := made(t)
	a := p.makes(rootHandle, 1, 2)
	p.makes(rootHandle, 1, 4)
	p.ticks(4)
	x := p.makes(a, 1, 3)
	p.ticks(6)
	if n, _ := p.node(x); n.Clock != 1 {
		t.Errorf("x had %d ticks", n.Clock)
	}
	p = made(t)
	a = p.makes(rootHandle, 1, 2)
	p.makes(rootHandle, 1, 4)
	task := p.tasks(a, 0)
	p.jobs(a, task, api.Job{Length: 3, Due: 9})
	marks := p.ticks(6)
	done := slices.IndexFunc(marks, func(m api.Mark) bool { return m.Kind == api.MarkDone })
	if done < 0 || marks[done] != (api.Mark{Tick: 4, Kind: api.MarkDone, Node: a, Task: task}) {
		t.Errorf("the job: %v", marks)
	}
}

func TestNew(t *testing.T) {
	p := made(t)
	p.check()
	n, number := p.node(rootHandle)
	if !sameNode(n, api.Node{}) || number != 0 {
		t.Errorf("the root: %v, %v", n, number)
	}
	s := p.k.State()
	if s.Now != 0 || s.Idle != 0 || s.Last != -1 || len(s.Nodes) != 1 || len(s.Slack.Tasks) != 0 {
		t.Errorf("State: %v", s)
	}
	if !slices.Equal(s.Gens, slices.Repeat([]int{1}, mostNodes)) || !slices.Equal(s.Slack.Gens, slices.Repeat([]int{1}, mostSlack)) {
		t.Errorf("generations: %v", s)
	}
	if other := New(); other == p.k {
		t.Error("New answers one kernel twice")
	}
}

func TestCreate(t *testing.T) {
	p := made(t)
	p.ticks(3)
	a := p.makes(rootHandle, 3, 10)
	n, _ := p.node(a)
	want := api.Node{Parent: rootHandle, Now: api.Reserve{Q: 3, P: 10}, Left: 3, Start: 3, End: 13}
	if a != nodeAt(1, 1) || !sameNode(n, want) {
		t.Errorf("%v: %v, not %v", a, n, want)
	}
	p.ticks(2)
	// Its clock is behind the root's: c's times are of that.
	c := p.makes(a, 1, 2)
	if n, _ := p.node(c); c != nodeAt(2, 1) || n.Parent != a || n.Start != 2 || n.End != 4 {
		t.Errorf("below a: %v %v", c, n)
	}
	if n, _ := p.node(a); !slices.Equal(n.Kids, []api.Handle{c}) {
		t.Errorf("a's kids: %v", n.Kids)
	}
	if n, _ := p.node(rootHandle); !slices.Equal(n.Kids, []api.Handle{a}) {
		t.Errorf("the root's kids: %v", n.Kids)
	}
	p.check()
}

func TestCreateOfEachReservation(t *testing.T) {
	for _, r := range reservations {
		p := made(t)
		if canBe(r) {
			p.makes(rootHandle, r.Q, r.P)
			p.check()
			continue
		}
		p.refused("Create", api.ErrRange, func() api.Errno {
			_, number := p.create(rootHandle, r)
			return number
		})
	}
}

func TestCreateOfNoParent(t *testing.T) {
	x := smallOf(t)
	for _, h := range slices.Concat(strangers, []api.Handle{0, x.goneNode, x.ta, x.s, x.goneTask}) {
		for _, r := range []api.Reserve{{Q: 1, P: 100}, {Q: 2, P: 1}, {Q: 1, P: 1}} {
			x.refused("Create", api.ErrHandle, func() api.Errno {
				_, number := x.create(h, r)
				return number
			})
		}
	}
}

func TestCreateBelowDying(t *testing.T) {
	x := smallOf(t)
	x.wants("Delete", x.remove(x.a), 0)
	// Ahead of what else is wrong: below a, and below what stands there.
	for _, h := range []api.Handle{x.a, x.c, x.d} {
		for _, r := range reservations {
			x.refused("Create", api.ErrDying, func() api.Errno {
				_, number := x.create(h, r)
				return number
			})
		}
	}
	// Beside it, and above it, all is well.
	x.makes(x.b, 1, 1)
	x.makes(rootHandle, 1, 4)
	x.check()
}

// deep is a pair with a row of nodes, each below the one ahead, as deep as may be; the whole row, the root first.
func deep(t *testing.T, q, per int) (*pair, []api.Handle) {
	t.Helper()
	p := made(t)
	row := []api.Handle{rootHandle}
	for range mostDepth {
		row = append(row, p.makes(row[len(row)-1], q, per))
	}
	return p, row
}

func TestCreateDeep(t *testing.T) {
	p, row := deep(t, 1, 1)
	last := row[mostDepth]
	p.refused("one deeper", api.ErrDepth, func() api.Errno {
		_, number := p.create(last, api.Reserve{Q: 1, P: 2})
		return number
	})
	p.refused("one deeper, with no reservation", api.ErrRange, func() api.Errno {
		_, number := p.create(last, api.Reserve{Q: 2, P: 1})
		return number
	})
	p.refused("beside the last one", api.ErrOverload, func() api.Errno {
		_, number := p.create(row[mostDepth-1], api.Reserve{Q: 1, P: 2})
		return number
	})
	// One deeper without a slot: the depth is told.
	p, row = deep(t, 1, 64)
	for len(p.m.part(rootHandle)) < mostNodes {
		p.makes(rootHandle, 1, 64)
	}
	p.refused("one deeper, without a slot", api.ErrDepth, func() api.Errno {
		_, number := p.create(row[mostDepth], api.Reserve{Q: 1, P: 2})
		return number
	})
	p.check()
}

func TestCreateInTheLastSlot(t *testing.T) {
	p := made(t)
	a := p.makes(rootHandle, 1, 2)
	for range mostNodes - 3 {
		p.makes(a, 1, 64)
	}
	last := p.makes(rootHandle, 1, 3)
	if last != nodeAt(mostNodes-1, 1) {
		t.Errorf("the last one: %v", last)
	}
	// No slot is told ahead of a sum above the whole.
	for _, r := range []api.Reserve{{Q: 1, P: 100}, {Q: 1, P: 1}} {
		p.refused("no slot", api.ErrRoom, func() api.Errno {
			_, number := p.create(rootHandle, r)
			return number
		})
	}
	p.refused("no reservation", api.ErrRange, func() api.Errno {
		_, number := p.create(rootHandle, api.Reserve{})
		return number
	})
	// One goes: its slot is given again, with the next generation.
	p.wants("Delete", p.remove(last), 0)
	p.ticks(3)
	if h := p.makes(a, 1, 64); h != nodeAt(mostNodes-1, 2) {
		t.Errorf("given again: %v", h)
	}
	p.check()
}

func TestCreateInTheLowestSlot(t *testing.T) {
	p := made(t)
	var l []api.Handle
	for range 5 {
		l = append(l, p.makes(rootHandle, 1, 10))
	}
	for _, i := range []int{3, 0} {
		p.wants("Delete", p.remove(l[i]), 0)
	}
	p.ticks(10)
	x, y, z := p.makes(l[4], 1, 2), p.makes(rootHandle, 1, 2), p.makes(rootHandle, 1, 10)
	if x != nodeAt(1, 2) || y != nodeAt(4, 2) || z != nodeAt(6, 1) {
		t.Errorf("%v %v %v", x, y, z)
	}
	// A child of a lower slot than its parent; children by their slots, whenever they came.
	if n, _ := p.node(rootHandle); !slices.Equal(n.Kids, []api.Handle{l[1], l[2], y, l[4], z}) {
		t.Errorf("Kids: %v", n.Kids)
	}
	if all := p.k.All(); !slices.Equal(all, []api.Handle{rootHandle, l[1], l[2], y, l[4], x, z}) {
		t.Errorf("All: %v", all)
	}
	p.check()
}

func TestSlotsAreUsedUp(t *testing.T) {
	p := made(t)
	var gone []api.Handle
	for gen := 1; gen <= lastGen; gen++ {
		h := p.makes(rootHandle, 1, 1)
		if h != nodeAt(1, gen) {
			t.Fatalf("generation %d: %v", gen, h)
		}
		gone = append(gone, h)
		p.wants("Delete", p.remove(h), 0)
		p.ticks(1)
	}
	// Slot 1 is used up; no handle of it is good again.
	if h := p.makes(rootHandle, 1, 64); h != nodeAt(2, 1) {
		t.Errorf("behind the last generation: %v", h)
	}
	for _, h := range gone {
		if _, number := p.node(h); number != api.ErrHandle {
			t.Fatalf("%v: %v", h, number)
		}
	}
	if gens := p.k.State().Gens; gens[1] != lastGen+1 {
		t.Errorf("generations: %v", gens)
	}
	for slot := 3; slot < mostNodes; slot++ {
		p.makes(rootHandle, 1, 64)
	}
	p.refused("no slot but one that is used up", api.ErrRoom, func() api.Errno {
		_, number := p.create(rootHandle, api.Reserve{Q: 1, P: 64})
		return number
	})
	p.check()
}

func TestCreateUpToTheWhole(t *testing.T) {
	p := made(t)
	a := p.makes(rootHandle, mostPeriod-1, mostPeriod)
	p.refused("two units more", api.ErrOverload, func() api.Errno {
		_, number := p.create(rootHandle, api.Reserve{Q: 2, P: mostPeriod})
		return number
	})
	p.refused("rounded up to two units", api.ErrOverload, func() api.Errno {
		_, number := p.create(rootHandle, api.Reserve{Q: 1, P: mostPeriod - 1})
		return number
	})
	p.makes(rootHandle, 1, mostPeriod)
	p.refused("the least one more", api.ErrOverload, func() api.Errno {
		_, number := p.create(rootHandle, api.Reserve{Q: 1, P: mostPeriod})
		return number
	})
	// Below a the whole is free.
	p.makes(a, 1, 1)
	p.check()
	// Three thirds are rounded up to more than the whole.
	p = made(t)
	p.makes(rootHandle, 1, 3)
	p.makes(rootHandle, 1, 3)
	p.refused("a third third", api.ErrOverload, func() api.Errno {
		_, number := p.create(rootHandle, api.Reserve{Q: 1, P: 3})
		return number
	})
	p.makes(rootHandle, 349524, mostPeriod)
	p.check()
}

// TestCreateBesidePending: what is pending counts, if it is more; what is in force, if that is.
func TestCreateBesidePending(t *testing.T) {
	p := made(t)
	a := p.makes(rootHandle, 1, 8)
	p.wants("Resize", p.resize(a, api.Reserve{Q: 1, P: 2}), 0)
	if units, _ := p.k.Reserved(rootHandle); units != whole/2 {
		t.Errorf("Reserved: %d", units)
	}
	p.refused("above the pending one", api.ErrOverload, func() api.Errno {
		_, number := p.create(rootHandle, api.Reserve{Q: 5, P: 8})
		return number
	})
	p.makes(rootHandle, 1, 2)
	p.check()
	p = made(t)
	a = p.makes(rootHandle, 1, 2)
	p.wants("Resize", p.resize(a, api.Reserve{Q: 1, P: 8}), 0)
	p.refused("above the one in force", api.ErrOverload, func() api.Errno {
		_, number := p.create(rootHandle, api.Reserve{Q: 5, P: 8})
		return number
	})
	p.ticks(1)
	p.refused("ahead of the boundary", api.ErrOverload, func() api.Errno {
		_, number := p.create(rootHandle, api.Reserve{Q: 5, P: 8})
		return number
	})
	p.ticks(1)
	p.makes(rootHandle, 7, 8)
	p.check()
	// What is dying stays reserved, the larger one of both, up to its boundary.
	p = made(t)
	a = p.makes(rootHandle, 1, 4)
	p.wants("Resize", p.resize(a, api.Reserve{Q: 3, P: 4}), 0)
	p.wants("Delete", p.remove(a), 0)
	for range 3 {
		p.refused("beside a dying one", api.ErrOverload, func() api.Errno {
			_, number := p.create(rootHandle, api.Reserve{Q: 1, P: 2})
			return number
		})
		p.ticks(1)
	}
	p.ticks(1)
	p.makes(rootHandle, 1, 1)
	p.check()
}

func TestResize(t *testing.T) {
	p := made(t)
	a := p.makes(rootHandle, 2, 5)
	now := api.Reserve{Q: 2, P: 5}
	for _, r := range []api.Reserve{{Q: 4, P: 5}, {Q: 1, P: 5}, {Q: 2, P: 6}, {Q: 4, P: 10}, {Q: 7, P: 7}} {
		p.wants("Resize", p.resize(a, r), 0)
		n, _ := p.node(a)
		if n.Now != now || n.Next != r || n.Left != 2 || n.Start != 0 || n.End != 5 {
			t.Errorf("%v is pending: %v", r, n)
		}
		p.check()
	}
	// The same as in force: nothing is pending.
	p.wants("Resize", p.resize(a, now), 0)
	if n, _ := p.node(a); n.Now != now || n.Next != (api.Reserve{}) {
		t.Errorf("the same: %v", n)
	}
	// Twice within one period: the last one counts.
	p.ticks(2)
	p.wants("Resize", p.resize(a, api.Reserve{Q: 1, P: 1}), 0)
	p.wants("Resize", p.resize(a, api.Reserve{Q: 3, P: 4}), 0)
	p.ticks(3)
	n, _ := p.node(a)
	want := api.Node{Parent: rootHandle, Now: api.Reserve{Q: 3, P: 4}, Left: 3, Start: 5, End: 9, Clock: 2, Acc: api.Account{Given: 2, Own: 2, Lent: 2}}
	if !sameNode(n, want) {
		t.Errorf("behind the boundary: %v, not %v", n, want)
	}
	p.check()
}

func TestResizeOfEachReservation(t *testing.T) {
	for _, r := range reservations {
		p := made(t)
		a := p.makes(rootHandle, 1, 2)
		if canBe(r) {
			p.wants("Resize", p.resize(a, r), 0)
			p.check()
			continue
		}
		p.refused("Resize", api.ErrRange, func() api.Errno { return p.resize(a, r) })
	}
}

func TestResizeAndDeleteOfNoNode(t *testing.T) {
	x := smallOf(t)
	for _, h := range slices.Concat(strangers, []api.Handle{0, x.goneNode, x.ta, x.s}) {
		x.refused("Resize", api.ErrHandle, func() api.Errno { return x.resize(h, api.Reserve{Q: 1, P: 9}) })
		x.refused("Resize to none", api.ErrHandle, func() api.Errno { return x.resize(h, api.Reserve{}) })
		x.refused("Delete", api.ErrHandle, func() api.Errno { return x.remove(h) })
	}
	x.refused("Resize of the root", api.ErrRoot, func() api.Errno { return x.resize(rootHandle, api.Reserve{Q: 1, P: 1}) })
	x.refused("Resize of the root to none", api.ErrRoot, func() api.Errno { return x.resize(rootHandle, api.Reserve{Q: 2, P: 1}) })
	x.refused("Delete of the root", api.ErrRoot, func() api.Errno { return x.remove(rootHandle) })
}

func TestResizeAndDeleteOfWhatIsToGo(t *testing.T) {
	x := smallOf(t)
	x.wants("Delete", x.remove(x.c), 0)
	for _, h := range []api.Handle{x.c, x.d} {
		for _, r := range reservations {
			x.refused("Resize", api.ErrDying, func() api.Errno { return x.resize(h, r) })
		}
		x.refused("Delete", api.ErrDying, func() api.Errno { return x.remove(h) })
	}
	// What is above, or beside, is not to go; and when that is deleted too, c and d go with the one that comes to its boundary first.
	x.wants("Resize above", x.resize(x.a, api.Reserve{Q: 1, P: 3}), 0)
	x.wants("Delete above", x.remove(x.a), 0)
	x.wants("Delete beside", x.remove(x.b), 0)
	x.check()
	x.ticks(6)
	x.check()
	if all := x.k.All(); !slices.Equal(all, []api.Handle{rootHandle}) {
		t.Errorf("All: %v", all)
	}
}

// TestDeleteBelow: one that is dying first, then one above it: it goes at its own boundary, if that is earlier.
func TestDeleteBelow(t *testing.T) {
	p := made(t)
	a := p.makes(rootHandle, 4, 8)
	b := p.makes(a, 1, 2)
	c := p.makes(a, 1, 6)
	p.wants("Delete", p.remove(b), 0)
	p.wants("Delete", p.remove(c), 0)
	p.wants("Delete", p.remove(a), 0)
	p.ticks(2)
	if all := p.k.All(); !slices.Equal(all, []api.Handle{rootHandle, a, c}) {
		t.Errorf("All: %v", all)
	}
	p.ticks(5)
	p.check()
	if all := p.k.All(); !slices.Equal(all, []api.Handle{rootHandle, a, c}) {
		t.Errorf("All: %v", all)
	}
	p.ticks(1)
	p.check()
	if all := p.k.All(); !slices.Equal(all, []api.Handle{rootHandle}) {
		t.Errorf("All: %v", all)
	}
}

func TestResizeUpToTheWhole(t *testing.T) {
	p := made(t)
	a := p.makes(rootHandle, 1, 4)
	b := p.makes(rootHandle, 1, 2)
	p.refused("a unit above", api.ErrOverload, func() api.Errno {
		return p.resize(a, api.Reserve{Q: whole/2 + 1, P: mostPeriod})
	})
	p.wants("just the whole", p.resize(a, api.Reserve{Q: 1, P: 2}), 0)
	p.refused("a unit more for the other one", api.ErrOverload, func() api.Errno {
		return p.resize(b, api.Reserve{Q: whole/2 + 1, P: mostPeriod})
	})
	p.refused("one more", api.ErrOverload, func() api.Errno {
		_, number := p.create(rootHandle, api.Reserve{Q: 1, P: mostPeriod})
		return number
	})
	// Its own pending one is not counted beside the new one: it is taken back, and free at once.
	p.wants("less than pending", p.resize(a, api.Reserve{Q: 3, P: 8}), 0)
	if units, _ := p.k.Reserved(rootHandle); units != whole/8*7 {
		t.Errorf("Reserved: %d", units)
	}
	p.wants("taken back", p.resize(a, api.Reserve{Q: 1, P: 4}), 0)
	p.makes(rootHandle, 1, 4)
	// All is reserved: to less is no more than what is in force, to the same share as well.
	p.wants("to less", p.resize(b, api.Reserve{Q: 1, P: 8}), 0)
	p.wants("to the same share", p.resize(b, api.Reserve{Q: 4, P: 8}), 0)
	p.refused("to more", api.ErrOverload, func() api.Errno { return p.resize(b, api.Reserve{Q: 5, P: 8}) })
	p.check()
}

// TestResizeBeforeTheOtherIsFree: what one gives up can be had by another one behind its boundary only.
func TestResizeBeforeTheOtherIsFree(t *testing.T) {
	p := made(t)
	a, b := p.makes(rootHandle, 1, 2), p.makes(rootHandle, 2, 4)
	p.wants("to less", p.resize(a, api.Reserve{Q: 1, P: 4}), 0)
	more := func() api.Errno { return p.resize(b, api.Reserve{Q: 3, P: 4}) }
	for range 2 {
		p.refused("to more", api.ErrOverload, more)
		p.ticks(1)
	}
	p.wants("to more", more(), 0)
	p.check()
	p.ticks(20)
	p.check()
}

func TestTask(t *testing.T) {
	x := smallOf(t)
	h := x.tasks(x.d, 7)
	if got, _ := x.taskOf(x.d, h); h != taskAt(0, 1) || !sameTask(got, api.Task{Prio: 7}) {
		t.Errorf("%v: %v", h, got)
	}
	h = x.tasks(0, 7)
	if got, _ := x.taskOf(0, h); h != slackAt(1, 1) || !sameTask(got, api.Task{Prio: 7}) {
		t.Errorf("%v: %v", h, got)
	}
	if l := x.k.Slack(); !slices.Equal(l, []api.Handle{x.s, h}) {
		t.Errorf("Slack: %v", l)
	}
	if n, _ := x.node(x.a); !slices.Equal(n.Tasks, []api.Handle{x.ta}) {
		t.Errorf("a's tasks: %v", n.Tasks)
	}
	for _, at := range []api.Handle{0, x.a, x.d} {
		for _, prio := range []int{0, mostPrio} {
			x.tasks(at, prio)
		}
		for _, prio := range []int{-1, mostPrio + 1, math.MinInt, math.MaxInt, 1 << 32} {
			x.refused("no priority", api.ErrRange, func() api.Errno {
				_, number := x.task(at, prio)
				return number
			})
		}
	}
	for _, prio := range []int{0, -1, 32} {
		x.refused("at the root", api.ErrRoot, func() api.Errno {
			_, number := x.task(rootHandle, prio)
			return number
		})
		for _, at := range slices.Concat(strangers, []api.Handle{x.goneNode, x.ta, x.s}) {
			x.refused("at no node", api.ErrHandle, func() api.Errno {
				_, number := x.task(at, prio)
				return number
			})
		}
	}
}

func TestTaskWithoutRoom(t *testing.T) {
	for _, best := range []bool{true, false} {
		p := made(t)
		at, many := api.Handle(0), mostSlack
		if !best {
			at, many = p.makes(rootHandle, 1, 2), mostTasks
		}
		var l []api.Handle
		for range many {
			l = append(l, p.tasks(at, 1))
		}
		p.refused("no slot", api.ErrRoom, func() api.Errno {
			_, number := p.task(at, 1)
			return number
		})
		p.refused("no slot, and no priority", api.ErrRange, func() api.Errno {
			_, number := p.task(at, 32)
			return number
		})
		p.wants("Untask", p.untask(at, l[3]), 0)
		if h := p.tasks(at, 2); h != l[3]+1 {
			t.Errorf("given again: %v", h)
		}
		p.check()
	}
}

// TestTasksOfOneNode: each node has its own ones, though their handles are alike.
func TestTasksOfOneNode(t *testing.T) {
	p := made(t)
	a, b := p.makes(rootHandle, 1, 2), p.makes(rootHandle, 1, 2)
	x, y := p.tasks(a, 1), p.tasks(b, 2)
	z := p.tasks(b, 3)
	if x != y || x == z {
		t.Fatalf("%v %v %v", x, y, z)
	}
	p.jobs(a, x, api.Job{Length: 5})
	if got, _ := p.taskOf(b, y); len(got.Jobs) != 0 || got.Prio != 2 {
		t.Errorf("the other one: %v", got)
	}
	p.refused("another node's", api.ErrHandle, func() api.Errno { return p.job(a, z, api.Job{Length: 1}) })
	p.refused("another node's", api.ErrHandle, func() api.Errno { return p.untask(a, z) })
	if _, number := p.taskOf(a, z); number != api.ErrHandle {
		t.Errorf("another node's: %v", number)
	}
	p.wants("Untask", p.untask(a, x), 0)
	p.wants("the other one", p.job(b, y, api.Job{Length: 1}), 0)
	p.check()
}

func TestTasksThatAreNot(t *testing.T) {
	x := smallOf(t)
	job := api.Job{Length: 1}
	none := func(at, h api.Handle, j api.Job) {
		t.Helper()
		x.refused("Untask", api.ErrHandle, func() api.Errno { return x.untask(at, h) })
		x.refused("Job", api.ErrHandle, func() api.Errno { return x.job(at, h, j) })
		x.refused("TaskOf", api.ErrHandle, func() api.Errno {
			_, number := x.taskOf(at, h)
			return number
		})
	}
	for _, h := range slices.Concat(strangers, []api.Handle{0, x.a, rootHandle, x.goneTask, x.gs}) {
		none(x.a, h, job)
		none(0, h, job)
	}
	// The root has none; a best-effort one is no node's, and the other way round.
	for _, h := range []api.Handle{0, x.ta, x.tb, x.s, taskAt(0, 1)} {
		none(rootHandle, h, job)
	}
	none(x.a, x.s, job)
	none(0, x.ta, job)
	none(x.d, x.tc, job)
	// What names no node has no tasks, be they what they may.
	for _, at := range slices.Concat(strangers, []api.Handle{x.goneNode, x.ta, x.s}) {
		none(at, x.ta, job)
		none(at, x.s, job)
	}
	// No task is told ahead of no job.
	none(x.a, x.goneTask, api.Job{})
	none(0, x.gs, api.Job{Length: -1})
}

func TestJob(t *testing.T) {
	x := smallOf(t)
	for _, at := range []api.Handle{x.d, 0} {
		h := x.tasks(at, 0)
		good := []api.Job{
			{Length: 1}, {Length: longest}, {Length: 1, Cap: 1}, {Length: 1, Cap: longest}, {Length: 1, Due: 1}, {Length: 1, Due: mostTicks},
			{Length: 3, Cap: 2, Due: 1, At: -5}, {Length: 2, At: math.MaxInt},
		}
		for _, j := range good {
			x.jobs(at, h, j)
		}
		got, _ := x.taskOf(at, h)
		for i, j := range good {
			j.At = 6
			if got.Jobs[i] != j {
				t.Errorf("%v is %v", j, got.Jobs[i])
			}
		}
		x.refused("full", api.ErrFull, func() api.Errno { return x.job(at, h, api.Job{Length: 1}) })
		empty := x.tasks(at, 0)
		for _, j := range []api.Job{
			{}, {Length: -1}, {Length: longest + 1}, {Length: math.MaxInt}, {Length: math.MinInt}, {Length: 1, Cap: -1}, {Length: 1, Cap: longest + 1},
			{Length: 1, Due: -1}, {Length: 1, Due: mostTicks + 1}, {Length: 1, Due: math.MinInt}, {Length: 1, Cap: math.MaxInt},
		} {
			x.refused("no job", api.ErrRange, func() api.Errno { return x.job(at, empty, j) })
			x.refused("no job, and full", api.ErrRange, func() api.Errno { return x.job(at, h, j) })
		}
	}
	x.check()
}

// TestTasksOfWhatIsToGo: a node that is to go has tasks, and gets new ones, till it goes.
func TestTasksOfWhatIsToGo(t *testing.T) {
	x := smallOf(t)
	x.wants("Delete", x.remove(x.a), 0)
	for _, at := range []api.Handle{x.a, x.c, x.d} {
		h := x.tasks(at, 1)
		x.jobs(at, h, api.Job{Length: 2})
		x.wants("Untask", x.untask(at, h), 0)
		h = x.tasks(at, 1)
		x.jobs(at, h, api.Job{Length: 2})
	}
	x.check()
	x.ticks(3)
	for _, at := range []api.Handle{x.a, x.c, x.d} {
		if _, number := x.task(at, 1); number != api.ErrHandle {
			t.Errorf("%v: %v", at, number)
		}
	}
	x.check()
}

func TestUntask(t *testing.T) {
	x := smallOf(t)
	before, _ := x.node(x.a)
	x.wants("Untask", x.untask(x.a, x.ta), 0)
	after, _ := x.node(x.a)
	if after.Acc != before.Acc || len(after.Tasks) != 0 {
		t.Errorf("%v behind %v", after, before)
	}
	x.refused("twice", api.ErrHandle, func() api.Errno { return x.untask(x.a, x.ta) })
	x.wants("Untask", x.untask(0, x.s), 0)
	x.refused("twice", api.ErrHandle, func() api.Errno { return x.untask(0, x.s) })
	x.check()
	x.ticks(8)
	x.check()
}

func TestNode(t *testing.T) {
	x := smallOf(t)
	for _, h := range slices.Concat(strangers, []api.Handle{0, x.goneNode, x.ta, x.s}) {
		if n, number := x.node(h); number != api.ErrHandle || !sameNode(n, api.Node{}) {
			t.Errorf("%v: %v %v", h, n, number)
		}
	}
	root, _ := x.node(rootHandle)
	want := api.Node{Clock: 6, Acc: api.Account{Given: 6, Own: 0}, Closed: api.Account{Given: 1, Own: 1, Lent: 1}, Kids: []api.Handle{x.a, x.b}}
	want.Acc.Own = root.Acc.Own // what was free
	if !sameNode(root, want) {
		t.Errorf("the root: %v, not %v", root, want)
	}
	x.wants("Resize", x.resize(x.b, api.Reserve{Q: 1, P: 5}), 0)
	x.wants("Delete", x.remove(x.b), 0)
	b, _ := x.node(x.b)
	if b.Parent != rootHandle || b.Next != (api.Reserve{Q: 1, P: 5}) || !b.Dying || !slices.Equal(b.Tasks, []api.Handle{x.tb}) {
		t.Errorf("b: %v", b)
	}
	// What is below a dying one is not dying itself.
	x.wants("Delete", x.remove(x.a), 0)
	if c, _ := x.node(x.c); c.Dying || c.Parent != x.a || !slices.Equal(c.Kids, []api.Handle{x.d}) {
		t.Errorf("c: %v", c)
	}
	x.check()
}

func TestReserved(t *testing.T) {
	p := made(t)
	want := func(h api.Handle, units int) {
		t.Helper()
		if got, err := p.k.Reserved(h); got != units || err != nil {
			t.Fatalf("Reserved: %d %v, not %d", got, err, units)
		}
	}
	want(rootHandle, 0)
	a := p.makes(rootHandle, 1, 3)
	want(rootHandle, 349526)
	want(a, 0)
	p.makes(a, 1, 2)
	b := p.makes(a, 1, 4)
	want(a, 786432)
	want(rootHandle, 349526)
	p.wants("Resize", p.resize(b, api.Reserve{Q: 1, P: 2}), 0)
	want(a, whole)
	p.wants("Resize", p.resize(b, api.Reserve{Q: 1, P: 8}), 0)
	want(a, 786432)
	p.wants("Delete", p.remove(b), 0)
	want(a, 786432)
	p.ticks(12)
	want(a, 524288)
	p.check()
}

// TestTwoFaults: of two faults at once the one is told that the order names first.
func TestTwoFaults(t *testing.T) {
	x := smallOf(t)
	create := func(h api.Handle, q, per int) func() api.Errno {
		return func() api.Errno {
			_, number := x.create(h, api.Reserve{Q: q, P: per})
			return number
		}
	}
	x.refused("no node, no reservation", api.ErrHandle, create(x.goneNode, 0, 0))
	x.refused("no reservation, and all reserved", api.ErrRange, create(x.c, 3, 2))
	x.refused("the root, no reservation", api.ErrRoot, func() api.Errno { return x.resize(rootHandle, api.Reserve{}) })
	x.refused("no reservation", api.ErrRange, func() api.Errno { return x.resize(x.b, api.Reserve{Q: 2, P: 1}) })
	x.wants("Delete", x.remove(x.d), 0)
	x.refused("dying, no reservation", api.ErrDying, create(x.d, 9, 0))
	x.refused("dying, no reservation", api.ErrDying, func() api.Errno { return x.resize(x.d, api.Reserve{}) })
	x.refused("the root, no priority", api.ErrRoot, func() api.Errno {
		_, number := x.task(rootHandle, -1)
		return number
	})
	x.refused("no node, no priority", api.ErrHandle, func() api.Errno {
		_, number := x.task(x.goneNode, -1)
		return number
	})
	// At the last one of a row as deep as may be, with no slot free.
	p, row := deep(t, 1, 64)
	for len(p.m.part(rootHandle)) < mostNodes {
		p.makes(row[1], 1, 64)
	}
	create = func(h api.Handle, q, per int) func() api.Errno {
		return func() api.Errno {
			_, number := p.create(h, api.Reserve{Q: q, P: per})
			return number
		}
	}
	p.refused("too deep, no reservation", api.ErrRange, create(row[mostDepth], 2, 1))
	p.refused("too deep, no slot", api.ErrDepth, create(row[mostDepth], 1, 1))
	p.refused("no slot, more than the whole", api.ErrRoom, create(row[1], 1, 1))
	p.wants("Delete", p.remove(row[4]), 0)
	p.refused("dying, too deep, no slot", api.ErrDying, create(row[mostDepth], 1, 1))
	p.refused("dying, no reservation, too deep, no slot", api.ErrDying, create(row[mostDepth], 2, 1))
}

// TestQuestionsChangeNothing: what only asks leaves the kernel as it was.
func TestQuestionsChangeNothing(t *testing.T) {
	x := smallOf(t)
	before := x.k.State()
	for range 3 {
		x.k.Root()
		x.k.Now()
		x.k.Idle()
		x.k.All()
		x.k.Slack()
		x.k.Clone()
		x.k.State()
		for _, h := range append(x.k.All(), strangers...) {
			x.k.Node(h)
			x.k.Reserved(h)
			x.k.TaskOf(h, x.ta)
			x.k.TaskOf(h, x.s)
		}
	}
	if after := x.k.State(); !sameState(before, after) {
		t.Errorf("%v is %v now", before, after)
	}
}

// TestAnswersAreNew: what is answered can be changed, with its spare room, and nothing else is by that.
func TestAnswersAreNew(t *testing.T) {
	x := smallOf(t)
	x.jobs(x.a, x.ta, api.Job{Length: 4})
	x.jobs(0, x.s, api.Job{Length: 4})
	spoil := func(l []api.Handle) {
		for i := range l[:cap(l)] {
			l[:cap(l)][i] = -9
		}
	}
	for range 2 {
		spoil(x.k.All())
		spoil(x.k.Slack())
		for _, h := range x.k.All() {
			n, _ := x.k.Node(h)
			spoil(n.Kids)
			again, _ := x.k.Node(h)
			tasks := slices.Clone(again.Tasks)
			spoil(again.Kids)
			if !slices.Equal(again.Tasks, tasks) {
				t.Fatal("Kids and Tasks share their room")
			}
			spoil(again.Tasks)
		}
		for at, h := range map[api.Handle]api.Handle{x.a: x.ta, 0: x.s} {
			got, _ := x.k.TaskOf(at, h)
			for i := range got.Jobs[:cap(got.Jobs)] {
				got.Jobs[:cap(got.Jobs)][i] = api.Job{Length: -1}
			}
		}
		marks, _ := x.k.Tick()
		x.m.tick()
		for i := range marks[:cap(marks)] {
			marks[:cap(marks)][i] = api.Mark{Tick: -1}
		}
		x.check()
	}
	// The other way round: an answer is not changed by what is done behind it.
	all, n, state := x.k.All(), x.k.Slack(), x.k.State()
	a, _ := x.k.Node(x.a)
	kept := plain(state)
	allKept, slackKept, kidsKept := slices.Clone(all), slices.Clone(n), slices.Clone(a.Kids)
	x.wants("Delete", x.remove(x.c), 0)
	x.makes(x.a, 1, 4)
	x.tasks(0, 1)
	x.tasks(x.a, 1)
	x.ticks(20)
	if !slices.Equal(all, allKept) || !slices.Equal(n, slackKept) || !slices.Equal(a.Kids, kidsKept) || !sameState(state, kept) {
		t.Error("an answer was changed behind it")
	}
}
