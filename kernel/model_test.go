package kernel

import (
	"errors"
	"reflect"
	"slices"
	"testing"

	"tithe/api"
	"tithe/budget"
	"tithe/fault"
)

// What the document writes: a handle is kind * kindFactor + slot * slotFactor + generation; the limits; the errors' and the operations' numbers; the marks.
const (
	kindFactor = 1099511627776
	slotFactor = 1048576
	whole      = 1048576
	mostPeriod = 1048576
	mostNodes  = 64
	mostDepth  = 8
	mostTasks  = 8
	mostSlack  = 16
	mostJobs   = 8
	longest    = 1048576
	mostPrio   = 31
	lastGen    = 1023
	mostTicks  = 1073741824
)

// rootHandle is the root's, as chapter 9 says it.
const rootHandle = api.Handle(kindFactor + 1)

// nodeAt, taskAt and slackAt are handles as chapter 2 says them.
func nodeAt(slot, gen int) api.Handle  { return api.Handle(kindFactor + slot*slotFactor + gen) }
func taskAt(slot, gen int) api.Handle  { return api.Handle(2*kindFactor + slot*slotFactor + gen) }
func slackAt(slot, gen int) api.Handle { return api.Handle(3*kindFactor + slot*slotFactor + gen) }

// numbers are all of api's errors.
var numbers = []api.Errno{1, 2, 3, 4, 10, 20, 30, 40, 50, 60, 80, 90, 91, 92, 220, 240, 250, 251, 270, 280}

// bench is slots with tasks, of a node or for the best-effort ones.
type bench struct {
	kind  int
	gens  []int
	taken []bool
	tasks []api.Task // one a slot
}

// benchOf is a bench of free slots.
func benchOf(kind, many int) bench {
	return bench{kind, slices.Repeat([]int{1}, many), make([]bool, many), make([]api.Task, many)}
}

// twin is a bench of its own.
func (b bench) twin() bench {
	b.gens, b.taken, b.tasks = slices.Clone(b.gens), slices.Clone(b.taken), slices.Clone(b.tasks)
	for slot, x := range b.tasks {
		b.tasks[slot].Jobs = slices.Clone(x.Jobs)
	}
	return b
}

// at is the handle of a slot.
func (b bench) at(slot int) api.Handle {
	return api.Handle(b.kind*kindFactor + slot*slotFactor + b.gens[slot])
}

// slot is that of a task that is there, or -1.
func (b bench) slot(h api.Handle) int {
	for slot, taken := range b.taken {
		if taken && b.at(slot) == h {
			return slot
		}
	}
	return -1
}

// all are the handles of the tasks that are there.
func (b bench) all() []api.Handle {
	var l []api.Handle
	for slot, taken := range b.taken {
		if taken {
			l = append(l, b.at(slot))
		}
	}
	return l
}

// add is a new task.
func (b bench) add(prio int) (api.Handle, api.Errno) {
	if prio < 0 || prio > mostPrio {
		return 0, api.ErrRange
	}
	for slot := range b.gens {
		if !b.taken[slot] && b.gens[slot] <= lastGen {
			b.taken[slot], b.tasks[slot] = true, api.Task{Prio: prio}
			return b.at(slot), 0
		}
	}
	return 0, api.ErrRoom
}

// drop takes a task away.
func (b bench) drop(h api.Handle) api.Errno {
	slot := b.slot(h)
	if slot < 0 {
		return api.ErrHandle
	}
	b.taken[slot], b.tasks[slot] = false, api.Task{}
	b.gens[slot]++
	return 0
}

// push is a job more.
func (b bench) push(h api.Handle, j api.Job, now int) api.Errno {
	slot := b.slot(h)
	switch {
	case slot < 0:
		return api.ErrHandle
	case j.Length < 1 || j.Length > longest || j.Cap < 0 || j.Cap > longest || j.Due < 0 || j.Due > mostTicks:
		return api.ErrRange
	case len(b.tasks[slot].Jobs) == mostJobs:
		return api.ErrFull
	}
	j.At = now
	b.tasks[slot].Jobs = append(slices.Clone(b.tasks[slot].Jobs), j)
	return 0
}

// next is the slot of the ready task with the least priority, of several the first behind a slot, round the table; -1: none.
func (b bench) next(behind int) int {
	best := -1
	for i := range b.gens {
		slot := (behind + 1 + i) % len(b.gens)
		if b.taken[slot] && len(b.tasks[slot].Jobs) > 0 && (best < 0 || b.tasks[slot].Prio < b.tasks[best].Prio) {
			best = slot
		}
	}
	return best
}

// run gives a tick to the first job at a slot: what mark its end makes (0: it goes on), how late it was.
func (b bench) run(slot, now int) (int, int) {
	x := &b.tasks[slot]
	x.Jobs = slices.Clone(x.Jobs)
	x.Acc.Given++
	x.Acc.Own++
	j := &x.Jobs[0]
	j.Length--
	capped := j.Cap > 0
	if capped {
		j.Cap--
	}
	kind := 0
	if j.Length == 0 {
		kind = api.MarkDone
		x.Acc.Done++
	} else if capped && j.Cap == 0 {
		kind = api.MarkCut
		x.Acc.Cut++
	}
	if kind == 0 {
		return 0, 0
	}
	late := 0
	if j.Due > 0 && now+1 > j.At+j.Due {
		late = now + 1 - j.At - j.Due
		x.Acc.Late++
	}
	x.Jobs = x.Jobs[1:]
	return kind, late
}

// state is a bench's part of a State.
func (b bench) state() LeafState {
	s := LeafState{Gens: slices.Clone(b.gens), Taken: slices.Clone(b.taken)}
	for slot, taken := range b.taken {
		if taken {
			x := b.tasks[slot]
			x.Jobs = slices.Clone(x.Jobs)
			s.Tasks = append(s.Tasks, x)
		}
	}
	return s
}

// benchFrom is the bench of a part of a State that may be.
func benchFrom(kind int, s LeafState) bench {
	b := benchOf(kind, len(s.Gens))
	copy(b.gens, s.Gens)
	copy(b.taken, s.Taken)
	next := 0
	for slot, taken := range s.Taken {
		if taken {
			b.tasks[slot] = s.Tasks[next]
			b.tasks[slot].Jobs = slices.Clone(s.Tasks[next].Jobs)
			next++
		}
	}
	return b
}

// spot is a node of a model.
type spot struct {
	h, parent        api.Handle
	now, next        api.Reserve
	dying            bool
	left, start, end int
	clock            int
	acc, closed      api.Account
	tasks            bench
}

// model is what a kernel must be like, reckoned plainly by the chapters' words.
type model struct {
	now, idle int
	gens      []int
	nodes     []*spot // one a slot; nil: it is free
	pool      bench
	last      int
}

// modelOf is the model of a new kernel.
func modelOf() *model {
	m := &model{gens: slices.Repeat([]int{1}, mostNodes), nodes: make([]*spot, mostNodes), pool: benchOf(3, mostSlack), last: -1}
	m.nodes[0] = &spot{h: rootHandle, tasks: benchOf(2, mostTasks)}
	return m
}

// twin is a model of its own.
func (m *model) twin() *model {
	other := *m
	other.gens, other.nodes, other.pool = slices.Clone(m.gens), slices.Clone(m.nodes), m.pool.twin()
	for slot, n := range m.nodes {
		if n != nil {
			twin := *n
			twin.tasks = n.tasks.twin()
			other.nodes[slot] = &twin
		}
	}
	return &other
}

// at is a node that is there, or nil.
func (m *model) at(h api.Handle) *spot {
	for _, n := range m.nodes {
		if n != nil && n.h == h {
			return n
		}
	}
	return nil
}

// kids are a node's children, by their slots.
func (m *model) kids(h api.Handle) []*spot {
	var l []*spot
	for _, n := range m.nodes {
		if n != nil && n.parent == h {
			l = append(l, n)
		}
	}
	return l
}

// kidHandles are those of a node's children.
func (m *model) kidHandles(h api.Handle) []api.Handle {
	var l []api.Handle
	for _, n := range m.kids(h) {
		l = append(l, n.h)
	}
	return l
}

// part are a node and all below it, in the order of All.
func (m *model) part(h api.Handle) []api.Handle {
	l := []api.Handle{h}
	for _, kid := range m.kidHandles(h) {
		l = append(l, m.part(kid)...)
	}
	return l
}

// path leads from a node up to the root.
func (m *model) path(h api.Handle) []*spot {
	var l []*spot
	for n := m.at(h); n != nil; n = m.at(n.parent) {
		l = append(l, n)
	}
	return l
}

// toGo tells whether a node is to go.
func (m *model) toGo(h api.Handle) bool {
	return slices.ContainsFunc(m.path(h), func(n *spot) bool { return n.dying })
}

// share is a reservation's, rounded up; 0 of the zero one.
func share(r api.Reserve) int {
	if r == (api.Reserve{}) {
		return 0
	}
	return (r.Q*whole + r.P - 1) / r.P
}

// canBe tells whether a reservation may be.
func canBe(r api.Reserve) bool { return r.Q >= 1 && r.Q <= r.P && r.P <= mostPeriod }

// reserved is what is reserved under a node, but for one of its children.
func (m *model) reserved(h, but api.Handle) int {
	sum := 0
	for _, kid := range m.kids(h) {
		if kid.h != but {
			sum += max(share(kid.now), share(kid.next))
		}
	}
	return sum
}

// create is what Create must do.
func (m *model) create(parent api.Handle, r api.Reserve) (api.Handle, api.Errno) {
	above := m.at(parent)
	slot := slices.IndexFunc(m.nodes, func(n *spot) bool { return n == nil })
	for slot >= 0 && slot < mostNodes && (m.nodes[slot] != nil || m.gens[slot] > lastGen) {
		slot++
	}
	switch {
	case above == nil:
		return 0, api.ErrHandle
	case m.toGo(parent):
		return 0, api.ErrDying
	case !canBe(r):
		return 0, api.ErrRange
	case len(m.path(parent)) > mostDepth:
		return 0, api.ErrDepth
	case slot < 0 || slot == mostNodes:
		return 0, api.ErrRoom
	case m.reserved(parent, 0)+share(r) > whole:
		return 0, api.ErrOverload
	}
	h := nodeAt(slot, m.gens[slot])
	m.nodes[slot] = &spot{h: h, parent: parent, now: r, left: r.Q, start: above.clock, end: above.clock + r.P, tasks: benchOf(2, mostTasks)}
	return h, 0
}

// resize is what Resize must do.
func (m *model) resize(h api.Handle, r api.Reserve) api.Errno {
	n := m.at(h)
	switch {
	case n == nil:
		return api.ErrHandle
	case h == rootHandle:
		return api.ErrRoot
	case m.toGo(h):
		return api.ErrDying
	case !canBe(r):
		return api.ErrRange
	case m.reserved(n.parent, h)+max(share(n.now), share(r)) > whole:
		return api.ErrOverload
	}
	n.next = r
	if r == n.now {
		n.next = api.Reserve{}
	}
	return 0
}

// remove is what Delete must do.
func (m *model) remove(h api.Handle) api.Errno {
	n := m.at(h)
	switch {
	case n == nil:
		return api.ErrHandle
	case h == rootHandle:
		return api.ErrRoot
	case m.toGo(h):
		return api.ErrDying
	}
	n.dying = true
	return 0
}

// bench is where a task of a node, or of 0, would stand; false: nowhere.
func (m *model) bench(h api.Handle) (bench, bool) {
	if h == 0 {
		return m.pool, true
	}
	if n := m.at(h); n != nil {
		return n.tasks, true
	}
	return bench{}, false
}

// task is what Task must do.
func (m *model) task(h api.Handle, prio int) (api.Handle, api.Errno) {
	b, there := m.bench(h)
	if !there {
		return 0, api.ErrHandle
	}
	if h == rootHandle {
		return 0, api.ErrRoot
	}
	return b.add(prio)
}

// untask is what Untask must do.
func (m *model) untask(h, x api.Handle) api.Errno {
	b, there := m.bench(h)
	if !there {
		return api.ErrHandle
	}
	return b.drop(x)
}

// job is what Job must do.
func (m *model) job(h, x api.Handle, j api.Job) api.Errno {
	b, there := m.bench(h)
	if !there {
		return api.ErrHandle
	}
	return b.push(x, j, m.now)
}

// taskOf is what TaskOf must answer.
func (m *model) taskOf(h, x api.Handle) (api.Task, api.Errno) {
	b, there := m.bench(h)
	if !there || b.slot(x) < 0 {
		return api.Task{}, api.ErrHandle
	}
	return b.tasks[b.slot(x)], 0
}

// node is what Node must answer.
func (m *model) node(h api.Handle) (api.Node, api.Errno) {
	n := m.at(h)
	if n == nil {
		return api.Node{}, api.ErrHandle
	}
	return api.Node{
		Parent: n.parent, Now: n.now, Next: n.next, Dying: n.dying, Left: n.left, Start: n.start, End: n.end,
		Clock: n.clock, Acc: n.acc, Closed: n.closed, Kids: m.kidHandles(h), Tasks: n.tasks.all(),
	}, 0
}

// way is where a tick goes: the nodes from the root on, each of which has a tick less.
func (m *model) way() []*spot {
	way := []*spot{m.at(rootHandle)}
	for {
		var first *spot
		for _, kid := range m.kids(way[len(way)-1].h) {
			if kid.left > 0 && (first == nil || kid.end < first.end) {
				first = kid
			}
		}
		if first == nil {
			return way
		}
		first.left--
		way = append(way, first)
	}
}

// tick is what Tick must do.
func (m *model) tick() ([]api.Mark, api.Errno) {
	if m.now == mostTicks {
		return nil, api.ErrTime
	}
	way := m.way()
	end := way[len(way)-1]
	marks := m.use(end)
	for _, n := range way {
		n.acc.Given++
	}
	end.acc.Own++
	if kind := marks[0].Kind; kind == api.MarkLent || kind == api.MarkIdle {
		end.acc.Lent++
	}
	if marks[0].Task == 0 {
		m.idle++
	}
	for _, n := range slices.Backward(way) {
		n.clock++
		for _, kid := range m.kids(n.h) {
			if kid.end == n.clock {
				marks = append(marks, m.cross(kid)...)
			}
		}
	}
	for i := range marks {
		marks[i].Tick = m.now
	}
	m.now++
	return marks, 0
}

// use is who has a tick that is a node's own, and what becomes of the job.
func (m *model) use(n *spot) []api.Mark {
	if slot := n.tasks.next(-1); slot >= 0 {
		marks := []api.Mark{{Kind: api.MarkGiven, Node: n.h, Task: n.tasks.at(slot)}}
		kind, late := n.tasks.run(slot, m.now)
		switch kind {
		case 0:
			return marks
		case api.MarkDone:
			n.acc.Done++
		case api.MarkCut:
			n.acc.Cut++
		}
		if late > 0 {
			n.acc.Late++
		}
		return append(marks, api.Mark{Kind: kind, Node: n.h, Task: n.tasks.at(slot), N: late})
	}
	slot := m.pool.next(m.last)
	used := api.Mark{Kind: api.MarkLent, Node: n.h}
	switch {
	case n.h == rootHandle:
		used.Kind = api.MarkFree
	case slot < 0:
		used.Kind = api.MarkIdle
	}
	if slot < 0 {
		return []api.Mark{used}
	}
	m.last = slot
	used.Task = m.pool.at(slot)
	kind, late := m.pool.run(slot, m.now)
	if kind == 0 {
		return []api.Mark{used}
	}
	return []api.Mark{used, {Kind: kind, Task: used.Task, N: late}}
}

// cross is what a boundary brings.
func (m *model) cross(n *spot) []api.Mark {
	marks := []api.Mark{{Kind: api.MarkEnd, Node: n.h, N: n.now.Q - n.left}}
	if n.dying {
		part := m.part(n.h)
		above := m.at(n.parent)
		above.closed.Given += n.acc.Given
		for _, h := range part {
			gone := m.at(h)
			for _, x := range []api.Account{gone.acc, gone.closed} {
				above.closed.Own += x.Own
				above.closed.Lent += x.Lent
				above.closed.Done += x.Done
				above.closed.Cut += x.Cut
				above.closed.Late += x.Late
			}
			marks = append(marks, api.Mark{Kind: api.MarkGone, Node: h})
		}
		for _, h := range part {
			slot := slices.Index(m.nodes, m.at(h))
			m.nodes[slot] = nil
			m.gens[slot]++
		}
		return marks
	}
	if n.next != (api.Reserve{}) {
		n.now, n.next = n.next, api.Reserve{}
		marks = append(marks, api.Mark{Kind: api.MarkSwitch, Node: n.h, N: n.now.Q})
	}
	n.left, n.start, n.end = n.now.Q, n.end, n.end+n.now.P
	return marks
}

// state is what State must answer.
func (m *model) state() State {
	s := State{Now: m.now, Idle: m.idle, Gens: slices.Clone(m.gens), Slack: m.pool.state(), Last: m.last}
	for _, h := range m.part(rootHandle) {
		n := m.at(h)
		x := NodeState{Handle: h, Parent: n.parent, Clock: n.clock, Acc: n.acc, Closed: n.closed}
		if h != rootHandle {
			x.Budget = budget.Budget{Now: n.now, Next: n.next, Dying: n.dying, Left: n.left, Start: n.start, End: n.end}
			x.Leaf = n.tasks.state()
		}
		s.Nodes = append(s.Nodes, x)
	}
	return s
}

// modelFrom is the model of a State that may be.
func modelFrom(s State) *model {
	m := &model{now: s.Now, idle: s.Idle, gens: slices.Clone(s.Gens), nodes: make([]*spot, mostNodes), pool: benchFrom(3, s.Slack), last: s.Last}
	for _, x := range s.Nodes {
		b := x.Budget
		n := &spot{
			h: x.Handle, parent: x.Parent, now: b.Now, next: b.Next, dying: b.Dying, left: b.Left, start: b.Start, end: b.End,
			clock: x.Clock, acc: x.Acc, closed: x.Closed, tasks: benchOf(2, mostTasks),
		}
		if x.Handle != rootHandle {
			n.tasks = benchFrom(2, x.Leaf)
		}
		m.nodes[int(x.Handle-rootHandle)/slotFactor] = n
	}
	return m
}

// plain is a State in which lists of no elements are nil, with lists of its own: two that are alike are equal.
func plain(s State) State {
	leaf := func(l LeafState) LeafState {
		l = LeafState{append([]int(nil), l.Gens...), append([]bool(nil), l.Taken...), append([]api.Task(nil), l.Tasks...)}
		for i, x := range l.Tasks {
			l.Tasks[i].Jobs = append([]api.Job(nil), x.Jobs...)
		}
		return l
	}
	s.Gens, s.Nodes, s.Slack = append([]int(nil), s.Gens...), append([]NodeState(nil), s.Nodes...), leaf(s.Slack)
	for i, n := range s.Nodes {
		s.Nodes[i].Leaf = leaf(n.Leaf)
	}
	return s
}

// sameState tells whether two States are alike.
func sameState(a, b State) bool { return reflect.DeepEqual(plain(a), plain(b)) }

// sameTask tells whether two tasks are alike.
func sameTask(a, b api.Task) bool {
	return a.Prio == b.Prio && a.Acc == b.Acc && slices.Equal(a.Jobs, b.Jobs)
}

// sameNode tells whether two nodes are alike.
func sameNode(a, b api.Node) bool {
	if !slices.Equal(a.Kids, b.Kids) || !slices.Equal(a.Tasks, b.Tasks) {
		return false
	}
	a.Kids, a.Tasks, b.Kids, b.Tasks = nil, nil, nil, nil
	return reflect.DeepEqual(a, b)
}

// checkFault holds an error against the Fault that it must be (number 0: none).
func checkFault(t *testing.T, err error, op int, at api.Handle, number api.Errno) {
	t.Helper()
	if number == 0 {
		if err != nil {
			t.Fatalf("op %d at %d: %v, not nil", op, at, err)
		}
		return
	}
	f, ok := err.(*fault.Fault)
	if !ok || f == nil || f.Op != op || f.At != at {
		t.Fatalf("op %d at %d: %#v, not the Fault with %v", op, at, err, number)
	}
	for _, x := range numbers {
		if errors.Is(err, x) != (x == number) {
			t.Fatalf("op %d at %d: %v, not with %v alone", op, at, err, number)
		}
	}
}

// pair is a kernel and its model, to which the same is done.
type pair struct {
	t *testing.T
	k *Kernel
	m *model
}

// made is a new pair.
func made(t *testing.T) *pair { return &pair{t, New(), modelOf()} }

// loaded is the pair of a State that Load takes.
func loaded(t *testing.T, s State) *pair {
	t.Helper()
	k, err := Load(s)
	if err != nil || k == nil {
		t.Fatalf("Load: %v", err)
	}
	p := &pair{t, k, modelFrom(s)}
	p.check()
	return p
}

// check holds the kernel against the model, in all that can be asked.
func (p *pair) check() {
	p.t.Helper()
	if p.k.Root() != rootHandle || p.k.Now() != p.m.now || p.k.Idle() != p.m.idle {
		p.t.Fatalf("Root, Now, Idle: %v %d %d, not %v %d %d", p.k.Root(), p.k.Now(), p.k.Idle(), rootHandle, p.m.now, p.m.idle)
	}
	all := p.m.part(rootHandle)
	if got := p.k.All(); !slices.Equal(got, all) {
		p.t.Fatalf("All: %v, not %v", got, all)
	}
	if got := p.k.Slack(); !slices.Equal(got, p.m.pool.all()) {
		p.t.Fatalf("Slack: %v, not %v", got, p.m.pool.all())
	}
	for _, h := range all {
		p.node(h)
		for _, x := range p.m.at(h).tasks.all() {
			p.taskOf(h, x)
		}
	}
	for _, x := range p.m.pool.all() {
		p.taskOf(0, x)
	}
	if got, want := p.k.State(), p.m.state(); !sameState(got, want) {
		p.t.Fatalf("State: %v, not %v", got, want)
	}
}

// create does Create; it must answer what the model says.
func (p *pair) create(parent api.Handle, r api.Reserve) (api.Handle, api.Errno) {
	p.t.Helper()
	got, err := p.k.Create(parent, r)
	want, number := p.m.create(parent, r)
	checkFault(p.t, err, api.OpCreate, parent, number)
	if got != want {
		p.t.Fatalf("Create(%v, %v): %v, not %v", parent, r, got, want)
	}
	return got, number
}

// resize does Resize.
func (p *pair) resize(h api.Handle, r api.Reserve) api.Errno {
	p.t.Helper()
	number := p.m.resize(h, r)
	checkFault(p.t, p.k.Resize(h, r), api.OpResize, h, number)
	return number
}

// remove does Delete.
func (p *pair) remove(h api.Handle) api.Errno {
	p.t.Helper()
	number := p.m.remove(h)
	checkFault(p.t, p.k.Delete(h), api.OpDelete, h, number)
	return number
}

// task does Task.
func (p *pair) task(h api.Handle, prio int) (api.Handle, api.Errno) {
	p.t.Helper()
	got, err := p.k.Task(h, prio)
	want, number := p.m.task(h, prio)
	checkFault(p.t, err, api.OpTask, h, number)
	if got != want {
		p.t.Fatalf("Task(%v, %d): %v, not %v", h, prio, got, want)
	}
	return got, number
}

// untask does Untask.
func (p *pair) untask(h, x api.Handle) api.Errno {
	p.t.Helper()
	number := p.m.untask(h, x)
	checkFault(p.t, p.k.Untask(h, x), api.OpUntask, h, number)
	return number
}

// job does Job.
func (p *pair) job(h, x api.Handle, j api.Job) api.Errno {
	p.t.Helper()
	number := p.m.job(h, x, j)
	checkFault(p.t, p.k.Job(h, x, j), api.OpJob, h, number)
	return number
}

// taskOf asks TaskOf.
func (p *pair) taskOf(h, x api.Handle) (api.Task, api.Errno) {
	p.t.Helper()
	got, err := p.k.TaskOf(h, x)
	want, number := p.m.taskOf(h, x)
	checkFault(p.t, err, api.OpTaskOf, h, number)
	if !sameTask(got, want) {
		p.t.Fatalf("TaskOf(%v, %v): %v, not %v", h, x, got, want)
	}
	return got, number
}

// node asks Node, and Reserved.
func (p *pair) node(h api.Handle) (api.Node, api.Errno) {
	p.t.Helper()
	got, err := p.k.Node(h)
	want, number := p.m.node(h)
	checkFault(p.t, err, api.OpNode, h, number)
	if !sameNode(got, want) {
		p.t.Fatalf("Node(%v): %v, not %v", h, got, want)
	}
	units, err := p.k.Reserved(h)
	checkFault(p.t, err, api.OpNode, h, number)
	if want := p.m.reserved(h, 0); number == 0 && units != want || number != 0 && units != 0 {
		p.t.Fatalf("Reserved(%v): %d, not %d", h, units, want)
	}
	return got, number
}

// tick does Tick.
func (p *pair) tick() ([]api.Mark, api.Errno) {
	p.t.Helper()
	got, err := p.k.Tick()
	want, number := p.m.tick()
	checkFault(p.t, err, api.OpTick, 0, number)
	if !slices.Equal(got, want) {
		p.t.Fatalf("Tick at %d: %v, not %v", p.m.now, got, want)
	}
	return got, number
}

// ticks does so many of them, each one well: all marks.
func (p *pair) ticks(n int) []api.Mark {
	p.t.Helper()
	var l []api.Mark
	for range n {
		marks, number := p.tick()
		if number != 0 {
			p.t.Fatalf("Tick: %v", number)
		}
		l = append(l, marks...)
	}
	return l
}

// makes does Create, well.
func (p *pair) makes(parent api.Handle, q, per int) api.Handle {
	p.t.Helper()
	h, number := p.create(parent, api.Reserve{Q: q, P: per})
	if number != 0 {
		p.t.Fatalf("Create(%v, %d/%d): %v", parent, q, per, number)
	}
	return h
}

// tasks does Task, well.
func (p *pair) tasks(h api.Handle, prio int) api.Handle {
	p.t.Helper()
	x, number := p.task(h, prio)
	if number != 0 {
		p.t.Fatalf("Task(%v, %d): %v", h, prio, number)
	}
	return x
}

// jobs does Job, well.
func (p *pair) jobs(h, x api.Handle, j api.Job) {
	p.t.Helper()
	if number := p.job(h, x, j); number != 0 {
		p.t.Fatalf("Job(%v, %v, %v): %v", h, x, j, number)
	}
}

// wants holds an operation's number against what the chapter says.
func (p *pair) wants(what string, got, want api.Errno) {
	p.t.Helper()
	if got != want {
		p.t.Fatalf("%s: %v, not %v", what, got, want)
	}
}

// refused is for operations that answer an error: the kernel is what it was.
func (p *pair) refused(what string, want api.Errno, do func() api.Errno) {
	p.t.Helper()
	before := p.k.State()
	p.wants(what, do(), want)
	if after := p.k.State(); !sameState(before, after) {
		p.t.Fatalf("%s: it answers an error, and the state %v is %v now", what, before, after)
	}
	p.check()
}

// twin is a pair of its own, by Clone.
func (p *pair) twin() *pair { return &pair{p.t, p.k.Clone(), p.m.twin()} }

// again is a pair of its own, by Load of State.
func (p *pair) again() *pair {
	p.t.Helper()
	k, err := Load(p.k.State())
	if err != nil {
		p.t.Fatalf("Load of State: %v", err)
	}
	return &pair{p.t, k, p.m.twin()}
}
