package leaf

import (
	"fmt"
	"math"
	"math/rand"
	"reflect"
	"slices"
	"testing"

	"tithe/api"
)

// What the document writes: a task's handle is kindFactor + slot * slotFactor + generation; the slots, the last generation, the greatest priority, how many jobs may wait, the greatest length, the greatest time, the marks of a job that was done, or cut.
const (
	kindFactor = 2 * 1099511627776
	slotFactor = 1048576
	mostTasks  = 8
	lastGen    = 1023
	mostPrio   = 31
	mostJobs   = 8
	longest    = 1048576
	mostTicks  = 1073741824
	markDone   = 8
	markCut    = 9
)

// edges are numbers at which something might change, wrong ones among them.
var edges = []int{
	math.MinInt, math.MinInt + 1, -1 << 32, -mostTicks, -longest, -2, -1, 0, 1, 2, 7, 8, 9, 30, 31, 32, 33,
	longest - 1, longest, longest + 1, 2 * longest, mostTicks - 2, mostTicks - 1, mostTicks, mostTicks + 1, 2 * mostTicks,
	1 << 32, 1<<32 + 1, math.MaxInt - 1, math.MaxInt,
}

// fence stands in the spare room of lists of jobs that are handed in.
var fence = api.Job{Length: -77, Cap: -78, At: -79, Due: -80}

// numberOf is a task's handle as layer 2 says it.
func numberOf(slot, gen int) api.Handle { return api.Handle(kindFactor + slot*slotFactor + gen) }

// strangers are numbers that are no task's handle, whatever the leaf: such of other kinds, of slots beyond the table, and such that would be a task's, if cut off or shifted.
var strangers = []api.Handle{
	0, -1, -2, 1, 2, lastGen, slotFactor, slotFactor + 1, math.MinInt, math.MinInt + 1, math.MaxInt - 1, math.MaxInt,
	kindFactor, kindFactor - 1, kindFactor/2 + 1, kindFactor/2*3 + 1, 2*kindFactor + 1, kindFactor/2 + slotFactor + 1, kindFactor/2*3 + slotFactor + 1,
	-numberOf(0, 1), math.MinInt + numberOf(0, 1), 1<<48 + numberOf(0, 1), 1<<62 + numberOf(0, 1), numberOf(-1, 1),
	numberOf(mostTasks, 1), numberOf(mostTasks+1, 1), numberOf(2*mostTasks, 1), numberOf(63, 1), numberOf(4095, 1), numberOf(4096, 1),
	numberOf(65535, 1), numberOf(65535, lastGen), numberOf(65536, 1), numberOf(65536+1, 1),
}

// model is what a leaf must be like, by its slots.
type model struct {
	gens  [mostTasks]int
	there [mostTasks]bool
	tasks [mostTasks]api.Task
	gone  []api.Handle
}

// modelOf is the model of a leaf without tasks.
func modelOf() *model {
	m := &model{}
	for slot := range m.gens {
		m.gens[slot] = 1
	}
	return m
}

// twin is a model of its own.
func (m *model) twin() *model {
	other := *m
	other.gone = slices.Clone(m.gone)
	for slot, x := range m.tasks {
		other.tasks[slot] = copied(x)
	}
	return &other
}

// copied is a task with a list of jobs of its own.
func copied(x api.Task) api.Task {
	x.Jobs = slices.Clone(x.Jobs)
	return x
}

// handleAt is the handle of the task at a slot.
func (m *model) handleAt(slot int) api.Handle { return numberOf(slot, m.gens[slot]) }

// slotOf is the slot of a task that is there; -1 of what is not.
func (m *model) slotOf(h api.Handle) int {
	for slot := range m.there {
		if m.there[slot] && m.handleAt(slot) == h {
			return slot
		}
	}
	return -1
}

// all are the handles of the tasks that are there, the lowest slot first.
func (m *model) all() []api.Handle {
	l := []api.Handle{}
	for slot, there := range m.there {
		if there {
			l = append(l, m.handleAt(slot))
		}
	}
	return l
}

// told are the tasks that are there, the lowest slot first.
func (m *model) told() []api.Task {
	l := []api.Task{}
	for slot, there := range m.there {
		if there {
			l = append(l, copied(m.tasks[slot]))
		}
	}
	return l
}

// within tells whether a number is from one to another one.
func within(n, low, high int) bool { return !(n < low) && !(n > high) }

// add is what Add must answer.
func (m *model) add(prio int) (api.Handle, error) {
	if !within(prio, 0, mostPrio) {
		return 0, api.ErrRange
	}
	for slot := range m.there {
		if !m.there[slot] && m.gens[slot] != lastGen+1 {
			m.there[slot], m.tasks[slot] = true, api.Task{Prio: prio}
			return m.handleAt(slot), nil
		}
	}
	return 0, api.ErrRoom
}

// drop is what Drop must answer.
func (m *model) drop(h api.Handle) (api.Account, error) {
	slot := m.slotOf(h)
	if slot < 0 {
		return api.Account{}, api.ErrHandle
	}
	m.there[slot] = false
	m.gens[slot]++
	m.gone = append(m.gone, h)
	return m.tasks[slot].Acc, nil
}

// push is what Push must answer.
func (m *model) push(h api.Handle, j api.Job, now int) error {
	slot := m.slotOf(h)
	switch {
	case slot < 0:
		return api.ErrHandle
	case !within(now, 0, mostTicks):
		return api.ErrArg
	case !within(j.Length, 1, longest) || !within(j.Cap, 0, longest) || !within(j.Due, 0, mostTicks):
		return api.ErrRange
	case len(m.tasks[slot].Jobs) == mostJobs:
		return api.ErrFull
	}
	m.tasks[slot].Jobs = append(m.tasks[slot].Jobs, api.Job{Length: j.Length, Cap: j.Cap, At: now, Due: j.Due})
	return nil
}

// ready is the slot of the first ready one: priority by priority, slot by slot; -1: none.
func (m *model) ready() int {
	for prio := 0; prio <= mostPrio; prio++ {
		for slot := range m.there {
			if x := m.tasks[slot]; m.there[slot] && x.Prio == prio && len(x.Jobs) > 0 {
				return slot
			}
		}
	}
	return -1
}

// offer is what Offer must answer.
func (m *model) offer(now int) (api.Handle, int, int) {
	slot := m.ready()
	if slot < 0 || !within(now, 0, mostTicks-1) || m.tasks[slot].Acc.Given == mostTicks {
		return 0, 0, 0
	}
	x := &m.tasks[slot]
	x.Acc.Given, x.Acc.Own = x.Acc.Given+1, x.Acc.Own+1
	job := &x.Jobs[0]
	capped := job.Cap > 0
	job.Length--
	if capped {
		job.Cap--
	}
	what := 0
	if job.Length == 0 {
		what = markDone
		x.Acc.Done++
	} else if capped && job.Cap == 0 {
		what = markCut
		x.Acc.Cut++
	}
	if what == 0 {
		return m.handleAt(slot), 0, 0
	}
	late := 0
	if due := job.At + job.Due; job.Due != 0 && due < now+1 {
		late = now + 1 - due
		x.Acc.Late++
	}
	x.Jobs = x.Jobs[1:]
	return m.handleAt(slot), what, late
}

// wrong are handles that name no task of a model's leaf: strangers, of other kinds, of the generations beside, of free slots, and what has gone.
func (m *model) wrong() []api.Handle {
	l := slices.Concat(strangers, m.gone)
	for slot, gen := range m.gens {
		h := numberOf(slot, gen)
		if !m.there[slot] {
			l = append(l, h)
		}
		l = append(l, numberOf(slot, gen-1), numberOf(slot, gen+1), numberOf(slot, 0), numberOf(slot, lastGen+1), -h)
		l = append(l, h-kindFactor/2, h+kindFactor/2, h+kindFactor, h-kindFactor)
	}
	return l
}

// alike tells whether two tasks are equal in all, no jobs being no jobs.
func alike(a, b api.Task) bool {
	return a.Prio == b.Prio && a.Acc == b.Acc && slices.Equal(a.Jobs, b.Jobs)
}

// check holds all that a leaf tells against a model.
func check(t *testing.T, l *Leaf, m *model) {
	t.Helper()
	if got := l.All(); !slices.Equal(got, m.all()) {
		t.Fatalf("All() = %v; want %v", got, m.all())
	}
	var first api.Handle
	if slot := m.ready(); slot >= 0 {
		first = m.handleAt(slot)
	}
	if got := l.Ready(); got != first {
		t.Fatalf("Ready() = %d; want %d; %v", got, first, m.told())
	}
	told := m.told()
	for place, h := range m.all() {
		if got, err := l.Task(h); !alike(got, told[place]) || err != nil {
			t.Fatalf("Task(%d) = %v, %v; want %v", h, got, err, told[place])
		}
	}
	gens, taken, tasks := l.Save()
	if !slices.Equal(gens, m.gens[:]) || !slices.Equal(taken, m.there[:]) || !slices.EqualFunc(tasks, told, alike) {
		t.Fatalf("Save() = %v, %v, %v; want %v, %v, %v", gens, taken, tasks, m.gens, m.there, told)
	}
}

// pair is a leaf and the model that it is held against, call by call.
type pair struct {
	t *testing.T
	l *Leaf
	m *model
}

// made is a pair without tasks.
func made(t *testing.T) *pair {
	t.Helper()
	p := &pair{t, New(), modelOf()}
	check(t, p.l, p.m)
	return p
}

// clone is a pair of its own, of the leaf's Clone.
func (p *pair) clone() *pair {
	p.t.Helper()
	other := &pair{p.t, p.l.Clone(), p.m.twin()}
	check(p.t, other.l, other.m)
	return other
}

// loaded is a pair of its own, of the leaf that is loaded of what Save says.
func (p *pair) loaded() *pair {
	p.t.Helper()
	l, err := Load(p.l.Save())
	if l == nil || err != nil {
		p.t.Fatalf("Load of Save: %v", err)
	}
	other := &pair{p.t, l, p.m.twin()}
	check(p.t, other.l, other.m)
	return other
}

func (p *pair) add(prio int) (api.Handle, error) {
	p.t.Helper()
	got, err := p.l.Add(prio)
	want, wantErr := p.m.add(prio)
	if got != want || err != wantErr {
		p.t.Fatalf("Add(%d) = %d, %v; want %d, %v", prio, got, err, want, wantErr)
	}
	check(p.t, p.l, p.m)
	return got, err
}

func (p *pair) drop(h api.Handle) (api.Account, error) {
	p.t.Helper()
	got, err := p.l.Drop(h)
	want, wantErr := p.m.drop(h)
	if got != want || err != wantErr {
		p.t.Fatalf("Drop(%d) = %v, %v; want %v, %v", h, got, err, want, wantErr)
	}
	check(p.t, p.l, p.m)
	return got, err
}

func (p *pair) push(h api.Handle, j api.Job, now int) error {
	p.t.Helper()
	err := p.l.Push(h, j, now)
	if want := p.m.push(h, j, now); err != want {
		p.t.Fatalf("Push(%d, %v, %d): %v; want %v", h, j, now, err, want)
	}
	check(p.t, p.l, p.m)
	return err
}

func (p *pair) offer(now int) (api.Handle, int, int) {
	p.t.Helper()
	was := p.m.told()
	got, what, late := p.l.Offer(now)
	want, wantWhat, wantLate := p.m.offer(now)
	if got != want || what != wantWhat || late != wantLate {
		p.t.Fatalf("Offer(%d) = %d, %d, %d; want %d, %d, %d; %v", now, got, what, late, want, wantWhat, wantLate, was)
	}
	check(p.t, p.l, p.m)
	return got, what, late
}

// adds adds tasks of priorities, for which there is room.
func (p *pair) adds(prios ...int) []api.Handle {
	p.t.Helper()
	l := []api.Handle{}
	for _, prio := range prios {
		h, err := p.add(prio)
		if err != nil {
			p.t.Fatalf("Add(%d): %v", prio, err)
		}
		l = append(l, h)
	}
	return l
}

// pushes pushes jobs, which may be, at 0.
func (p *pair) pushes(h api.Handle, jobs ...api.Job) {
	p.t.Helper()
	for _, j := range jobs {
		if err := p.push(h, j, 0); err != nil {
			p.t.Fatalf("Push(%d, %v, 0): %v", h, j, err)
		}
	}
}

// offers offers ticks from a time on, and holds who used them against handles.
func (p *pair) offers(from int, want ...api.Handle) {
	p.t.Helper()
	for i, h := range want {
		if got, _, _ := p.offer(from + i); got != h {
			p.t.Fatalf("Offer(%d): %d; want %d", from+i, got, h)
		}
	}
}

// pairOf is a pair that is loaded: of each slot its generation, and of those that are taken the task.
func pairOf(t *testing.T, gens [mostTasks]int, tasks map[int]api.Task) *pair {
	t.Helper()
	m := &model{gens: gens}
	for slot, x := range tasks {
		m.there[slot], m.tasks[slot] = true, copied(x)
	}
	l, err := Load(slices.Clone(gens[:]), slices.Clone(m.there[:]), m.told())
	if l == nil || err != nil {
		t.Fatalf("Load(%v, %v, %v): %v", gens, m.there, m.told(), err)
	}
	check(t, l, m)
	return &pair{t, l, m}
}

// fresh are the generations of slots that nothing was given of.
var fresh = [mostTasks]int{1, 1, 1, 1, 1, 1, 1, 1}

// ticked is a task of a priority with a job of 9, that was given so many ticks.
func ticked(prio, ticks int) api.Task {
	return api.Task{Prio: prio, Jobs: []api.Job{{Length: 9}}, Acc: api.Account{Given: ticks, Own: ticks}}
}

// busy is a pair with tasks at some slots, free slots of several generations, one that is used up, and jobs of all sorts.
func busy(t *testing.T) *pair {
	t.Helper()
	p := pairOf(t, [mostTasks]int{4, 2, 7, lastGen + 1, lastGen, 1, 9, lastGen}, map[int]api.Task{
		1: {Prio: 5, Jobs: []api.Job{{Length: 3, Cap: 2, At: 10, Due: 5}, {Length: 4, At: 11}, {Length: 2, Cap: 7, At: 12, Due: 9}}, Acc: api.Account{Given: 20, Own: 20, Done: 4, Cut: 3, Late: 2}},
		2: {Prio: 0, Acc: api.Account{Given: 3, Own: 3, Done: 1}},
		4: {Prio: 5, Jobs: []api.Job{{Length: 1, Cap: 1, At: 3, Due: 1}}},
		6: {Prio: mostPrio, Jobs: slices.Repeat([]api.Job{{Length: 2, At: 1, Due: 7}}, mostJobs), Acc: api.Account{Given: mostTicks - 1, Own: mostTicks - 1, Cut: 5}},
		7: {Prio: 1},
	})
	p.m.gone = []api.Handle{numberOf(0, 3), numberOf(3, lastGen), numberOf(1, 1), numberOf(7, lastGen-1)}
	return p
}

// starts are pairs of many sorts to begin with.
func starts(t *testing.T) map[string]*pair {
	t.Helper()
	full := made(t)
	for slot := range mostTasks {
		full.pushes(full.adds(slot % 3)[0], api.Job{Length: slot + 1})
	}
	one := made(t)
	one.pushes(one.adds(4)[0], api.Job{Length: 1}, api.Job{Length: 2, Cap: 1})
	idle := made(t)
	idle.adds(3, 2, 2)
	return map[string]*pair{"none": made(t), "one": one, "idle": idle, "full": full, "busy": busy(t)}
}

// The calls have the forms that the chapter lists.
var (
	_ func() *Leaf                                   = New
	_ func(*Leaf, int) (api.Handle, error)           = (*Leaf).Add
	_ func(*Leaf, api.Handle) (api.Account, error)   = (*Leaf).Drop
	_ func(*Leaf, api.Handle, api.Job, int) error    = (*Leaf).Push
	_ func(*Leaf) api.Handle                         = (*Leaf).Ready
	_ func(*Leaf, int) (api.Handle, int, int)        = (*Leaf).Offer
	_ func(*Leaf, api.Handle) (api.Task, error)      = (*Leaf).Task
	_ func(*Leaf) []api.Handle                       = (*Leaf).All
	_ func(*Leaf) *Leaf                              = (*Leaf).Clone
	_ func(*Leaf) ([]int, []bool, []api.Task)        = (*Leaf).Save
	_ func([]int, []bool, []api.Task) (*Leaf, error) = Load
)

// LF1, LF2: the chapter's example.
func TestExample(t *testing.T) {
	l := New()
	a, errA := l.Add(5)
	b, errB := l.Add(3)
	if a != 2199023255553 || b != 2199024304129 || errA != nil || errB != nil {
		t.Fatalf("Add: %d, %v; %d, %v", a, errA, b, errB)
	}
	for _, h := range []api.Handle{a, b} {
		if err := l.Push(h, api.Job{Length: 2}, 0); err != nil {
			t.Fatalf("Push(%d): %v", h, err)
		}
	}
	for now, want := range []struct {
		h    api.Handle
		what int
	}{{b, 0}, {b, api.MarkDone}, {a, 0}, {a, api.MarkDone}, {0, 0}} {
		if h, what, late := l.Offer(now); h != want.h || what != want.what || late != 0 {
			t.Errorf("Offer(%d) = %d, %d, %d; want %d, %d", now, h, what, late, want.h, want.what)
		}
	}
	for _, h := range []api.Handle{a, b} {
		if acc, err := l.Drop(h); acc != (api.Account{Given: 2, Own: 2, Done: 1}) || err != nil {
			t.Errorf("Drop(%d) = %v, %v", h, acc, err)
		}
	}
}

// LF1: priorities from 0 to MaxPrio make a task, others none.
func TestAdd(t *testing.T) {
	for prio, want := range map[int]error{
		-1: api.ErrRange, 0: nil, 1: nil, api.MaxPrio: nil, api.MaxPrio + 1: api.ErrRange,
		math.MinInt: api.ErrRange, math.MaxInt: api.ErrRange, 1 << 32: api.ErrRange, -1 << 32: api.ErrRange, 1<<32 + 3: api.ErrRange,
	} {
		p := made(t)
		h, err := p.add(prio)
		if err != want || err == nil && h != numberOf(0, 1) {
			t.Errorf("Add(%d) = %d, %v; want %v", prio, h, err, want)
		}
		if x, err := p.l.Task(numberOf(0, 1)); want == nil && (!alike(x, api.Task{Prio: prio}) || err != nil) {
			t.Errorf("Add(%d): %v, %v", prio, x, err)
		}
	}
	for name, p := range starts(t) {
		for prio := -3; prio < 40; prio++ {
			p.clone().add(prio)
		}
		for _, prio := range edges {
			if _, err := p.clone().add(prio); !within(prio, 0, mostPrio) && err != api.ErrRange {
				t.Errorf("%s: Add(%d): %v", name, prio, err)
			}
		}
	}
}

// LF1: as many tasks as MaxTasks, and one more; a wrong priority is told ahead of that.
func TestAddFull(t *testing.T) {
	p := made(t)
	for slot := range api.MaxTasks {
		if h, err := p.add(slot); h != numberOf(slot, 1) || err != nil {
			t.Fatalf("Add %d: %d, %v", slot, h, err)
		}
	}
	for range 3 {
		if h, err := p.add(0); h != 0 || err != api.ErrRoom {
			t.Errorf("Add beyond MaxTasks: %d, %v", h, err)
		}
		if h, err := p.add(-1); h != 0 || err != api.ErrRange {
			t.Errorf("Add(-1) beyond MaxTasks: %d, %v", h, err)
		}
		if h, err := p.add(mostPrio + 1); h != 0 || err != api.ErrRange {
			t.Errorf("Add(32) beyond MaxTasks: %d, %v", h, err)
		}
	}
	for slot := mostTasks - 1; slot >= 0; slot-- {
		p.drop(numberOf(slot, 1))
		if h, err := p.add(2); h != numberOf(slot, 2) || err != nil {
			t.Errorf("Add at slot %d again: %d, %v", slot, h, err)
		}
	}
}

// LF1: of the slots that are free the lowest is given, in whatever order they came free.
func TestAddLowest(t *testing.T) {
	for set := range 1 << mostTasks {
		p := made(t)
		p.adds(slices.Repeat([]int{7}, mostTasks)...)
		order := rand.New(rand.NewSource(int64(set))).Perm(mostTasks)
		for _, slot := range order {
			if set>>slot&1 == 1 {
				p.drop(numberOf(slot, 1))
			}
		}
		for slot := range mostTasks {
			if set>>slot&1 == 0 {
				continue
			}
			if h, err := p.add(1); h != numberOf(slot, 2) || err != nil {
				t.Fatalf("%08b: Add = %d, %v; want slot %d", set, h, err, slot)
			}
		}
		if _, err := p.add(1); err != api.ErrRoom {
			t.Fatalf("%08b: Add to a full leaf: %v", set, err)
		}
	}
}

// LF1: a slot is given once for each generation; when it is used up, the next one is; when all are, there is no room, though no task is there.
func TestUsedUp(t *testing.T) {
	l, m := New(), modelOf()
	for slot := range mostTasks {
		for gen := 1; gen <= api.MaxGen; gen++ {
			h, err := l.Add(gen % 32)
			want, _ := m.add(gen % 32)
			if h != numberOf(slot, gen) || h != want || err != nil {
				t.Fatalf("Add = %d, %v; want slot %d, generation %d", h, err, slot, gen)
			}
			if acc, err := l.Drop(h); acc != (api.Account{}) || err != nil {
				t.Fatalf("Drop(%d) = %v, %v", h, acc, err)
			}
			m.drop(h)
		}
		check(t, l, m)
	}
	p := &pair{t, l, m}
	for _, q := range []*pair{p, p.clone(), p.loaded()} {
		if h, err := q.add(0); h != 0 || err != api.ErrRoom {
			t.Errorf("Add where all is used up: %d, %v", h, err)
		}
		if _, err := q.add(-1); err != api.ErrRange {
			t.Errorf("Add(-1) where all is used up: %v", err)
		}
		q.offer(0)
		q.wrongHandles()
	}
}

// LF1: the last generation of a slot is given as the others are, one that is used up is passed by.
func TestLastGeneration(t *testing.T) {
	p := pairOf(t, [mostTasks]int{lastGen + 1, lastGen, lastGen + 1, lastGen - 1, 1, 1, 1, 1}, nil)
	if h := p.adds(3)[0]; h != numberOf(1, lastGen) {
		t.Errorf("Add: %d", h)
	}
	p.pushes(numberOf(1, lastGen), api.Job{Length: 2})
	p.offers(0, numberOf(1, lastGen))
	p.drop(numberOf(1, lastGen))
	for _, gen := range []int{lastGen - 1, lastGen} {
		if h := p.adds(3)[0]; h != numberOf(3, gen) {
			t.Errorf("Add: %d; want generation %d", h, gen)
		}
		p.drop(numberOf(3, gen))
	}
	if h := p.adds(3)[0]; h != numberOf(4, 1) {
		t.Errorf("Add: %d", h)
	}
	p.loaded().wrongHandles()
}

// wrongHandles holds each call that takes a handle against ErrHandle, for handles of nothing that is there.
func (p *pair) wrongHandles() {
	p.t.Helper()
	job := api.Job{Length: 1}
	for _, h := range p.m.wrong() {
		if p.m.slotOf(h) >= 0 {
			p.t.Fatalf("%d is a task's", h)
		}
		if acc, err := p.l.Drop(h); acc != (api.Account{}) || err != api.ErrHandle {
			p.t.Errorf("Drop(%d) = %v, %v", h, acc, err)
		}
		if err := p.l.Push(h, job, 0); err != api.ErrHandle {
			p.t.Errorf("Push(%d): %v", h, err)
		}
		if x, err := p.l.Task(h); !reflect.DeepEqual(x, api.Task{}) || err != api.ErrHandle {
			p.t.Errorf("Task(%d) = %v, %v", h, x, err)
		}
	}
	check(p.t, p.l, p.m)
}

// LF1, LF3: handles of other kinds, of free slots, of other generations, of slots beyond the table, and no handles at all.
func TestWrongHandles(t *testing.T) {
	for _, p := range starts(t) {
		p.wrongHandles()
		for _, h := range p.m.all() {
			p.drop(h)
			p.wrongHandles()
			p.add(3)
			p.wrongHandles()
		}
	}
}

// LF1, LF4: what has gone names nothing again, though its slot is given again, and a leaf's handles name nothing in another one.
func TestGoneForEver(t *testing.T) {
	p := made(t)
	gone := []api.Handle{}
	for range 40 {
		h := p.adds(1)[0]
		p.pushes(h, api.Job{Length: 3})
		p.drop(h)
		gone = append(gone, h)
	}
	p.adds(1, 2, 3)
	for _, h := range gone {
		if _, err := p.l.Task(h); err != api.ErrHandle {
			t.Errorf("Task(%d): %v", h, err)
		}
	}
	p.wrongHandles()
	if _, err := New().Task(p.m.handleAt(0)); err != api.ErrHandle {
		t.Errorf("Task of another leaf's handle: %v", err)
	}
}

// LF1: Push with each of its errors, with each job at the edges.
func TestPush(t *testing.T) {
	for _, n := range edges {
		for _, m := range edges {
			p := made(t)
			h := p.adds(3)[0]
			p.push(h, api.Job{Length: n, Cap: m, At: n, Due: m}, 0)
			p.push(h, api.Job{Length: 1, Cap: n, At: m, Due: 2}, 1)
			p.push(h, api.Job{Length: 1, At: n, Due: n}, m)
			p.push(h, api.Job{Length: n, Due: m}, mostTicks)
		}
	}
	p := made(t)
	h := p.adds(3)[0]
	for _, c := range []struct {
		job  api.Job
		now  int
		want error
	}{
		{api.Job{Length: 1}, -1, api.ErrArg}, {api.Job{Length: 1}, api.MaxTicks + 1, api.ErrArg},
		{api.Job{Length: 1}, math.MinInt, api.ErrArg}, {api.Job{Length: 1}, math.MaxInt, api.ErrArg},
		{api.Job{}, 0, api.ErrRange}, {api.Job{Length: -1}, 0, api.ErrRange}, {api.Job{Length: api.MaxLength + 1}, 0, api.ErrRange},
		{api.Job{Length: 1, Cap: -1}, 0, api.ErrRange}, {api.Job{Length: 1, Cap: api.MaxLength + 1}, 0, api.ErrRange},
		{api.Job{Length: 1, Due: -1}, 0, api.ErrRange}, {api.Job{Length: 1, Due: api.MaxTicks + 1}, 0, api.ErrRange},
		{api.Job{Length: 1, At: -1}, 0, nil}, {api.Job{Length: 1, At: math.MaxInt}, api.MaxTicks, nil},
		{api.Job{Length: api.MaxLength, Cap: api.MaxLength, Due: api.MaxTicks}, api.MaxTicks, nil},
	} {
		if err := p.push(h, c.job, c.now); err != c.want {
			t.Errorf("Push(%v, %d): %v; want %v", c.job, c.now, err, c.want)
		}
	}
}

// LF1: as many jobs as MaxJobs, and one more; there is room again, when one is done.
func TestPushFull(t *testing.T) {
	p := made(t)
	l := p.adds(3, 3)
	for i := range api.MaxJobs {
		if err := p.push(l[0], api.Job{Length: 1, Cap: i, Due: i}, i); err != nil {
			t.Errorf("Push of job %d: %v", i, err)
		}
	}
	for range 3 {
		if err := p.push(l[0], api.Job{Length: 1}, 9); err != api.ErrFull {
			t.Errorf("Push beyond MaxJobs: %v", err)
		}
	}
	if err := p.push(l[1], api.Job{Length: 1}, 9); err != nil {
		t.Errorf("Push at the other task: %v", err)
	}
	p.offers(20, l[0])
	if err := p.push(l[0], api.Job{Length: 5}, 21); err != nil {
		t.Errorf("Push, when one is done: %v", err)
	}
	if err := p.push(l[0], api.Job{Length: 5}, 21); err != api.ErrFull {
		t.Errorf("Push beyond MaxJobs again: %v", err)
	}
}

// LF1: of several faults that which the rule names first.
func TestPushOrder(t *testing.T) {
	p := made(t)
	l := p.adds(3, 4)
	for range mostJobs {
		p.pushes(l[0], api.Job{Length: 1})
	}
	for _, c := range []struct {
		h    api.Handle
		job  api.Job
		now  int
		want error
	}{
		{numberOf(2, 1), api.Job{Length: 1}, -1, api.ErrHandle}, {0, api.Job{}, 0, api.ErrHandle}, {-1, api.Job{}, mostTicks + 1, api.ErrHandle},
		{l[1], api.Job{}, -1, api.ErrArg}, {l[1], api.Job{Length: 1, Cap: -1}, mostTicks + 1, api.ErrArg},
		{l[0], api.Job{Length: 1}, -1, api.ErrArg}, {l[0], api.Job{}, -1, api.ErrArg}, {l[0], api.Job{Length: 1}, mostTicks + 1, api.ErrArg},
		{l[0], api.Job{}, 0, api.ErrRange}, {l[0], api.Job{Length: 1, Due: -1}, mostTicks, api.ErrRange},
		{l[0], api.Job{Length: 1}, 0, api.ErrFull}, {l[0], api.Job{Length: 1}, mostTicks, api.ErrFull},
	} {
		if err := p.push(c.h, c.job, c.now); err != c.want {
			t.Errorf("Push(%d, %v, %d): %v; want %v", c.h, c.job, c.now, err, c.want)
		}
	}
}

// LF1: a job waits at its task's end, and at no other one's.
func TestPushAtTheEnd(t *testing.T) {
	p := made(t)
	l := p.adds(4, 4, 1)
	for i := range mostJobs {
		p.push(l[i%2], api.Job{Length: i + 1, Cap: 2 * i, At: 99, Due: 3 * i}, 10+i)
	}
	for k := range 2 {
		x, err := p.l.Task(l[k])
		want := []api.Job{}
		for i := k; i < mostJobs; i += 2 {
			want = append(want, api.Job{Length: i + 1, Cap: 2 * i, At: 10 + i, Due: 3 * i})
		}
		if !slices.Equal(x.Jobs, want) || err != nil {
			t.Errorf("Task(%d) = %v, %v; want the jobs %v", l[k], x, err, want)
		}
	}
}

// LF2: no task, tasks without a job: nobody is ready, and a tick changes nothing.
func TestNobody(t *testing.T) {
	for _, prios := range [][]int{nil, {0}, {31}, {3, 3, 0}, {0, 1, 2, 3, 4, 5, 6, 7}} {
		p := made(t)
		l := p.adds(prios...)
		for _, now := range edges {
			if h, what, late := p.offer(now); h != 0 || what != 0 || late != 0 {
				t.Errorf("%v: Offer(%d) = %d, %d, %d", prios, now, h, what, late)
			}
		}
		if h := p.l.Ready(); h != 0 {
			t.Errorf("%v: Ready() = %d", prios, h)
		}
		for _, h := range l {
			if x, err := p.l.Task(h); x.Acc != (api.Account{}) || err != nil {
				t.Errorf("%v: Task(%d) = %v, %v", prios, h, x, err)
			}
		}
	}
}

// LF2: of those that have a job the one with the least number, of the same number the lowest slot.
func TestReady(t *testing.T) {
	for _, c := range []struct {
		prios, jobs []int
		want        int
	}{
		{[]int{5}, []int{1}, 0}, {[]int{0}, []int{1}, 0}, {[]int{31}, []int{1}, 0},
		{[]int{5, 3}, []int{1, 1}, 1}, {[]int{3, 5}, []int{1, 1}, 0}, {[]int{5, 3}, []int{1, 0}, 0}, {[]int{3, 5}, []int{0, 1}, 1},
		{[]int{4, 4}, []int{1, 1}, 0}, {[]int{4, 4}, []int{0, 1}, 1}, {[]int{4, 4, 4}, []int{0, 2, 1}, 1}, {[]int{4, 4, 4}, []int{1, 8, 8}, 0},
		{[]int{9, 4, 4, 0}, []int{1, 1, 1, 0}, 1}, {[]int{9, 4, 4, 0}, []int{1, 1, 1, 1}, 3}, {[]int{9, 4, 4, 0}, []int{1, 0, 1, 0}, 2},
		{[]int{31, 31, 30, 31}, []int{1, 1, 1, 1}, 2}, {[]int{7, 6, 5, 4, 3, 2, 1, 0}, []int{1, 1, 1, 1, 1, 1, 1, 1}, 7},
		{[]int{7, 7, 7, 7, 7, 7, 7, 7}, []int{0, 0, 0, 0, 0, 0, 0, 1}, 7}, {[]int{0, 31, 0}, []int{0, 1, 0}, 1},
	} {
		p := made(t)
		l := p.adds(c.prios...)
		for i, n := range c.jobs {
			p.pushes(l[i], slices.Repeat([]api.Job{{Length: 2}}, n)...)
		}
		if h := p.l.Ready(); h != l[c.want] {
			t.Errorf("%v, %v: Ready() = %d; want that of place %d", c.prios, c.jobs, h, c.want)
		}
		if h, _, _ := p.offer(0); h != l[c.want] {
			t.Errorf("%v, %v: Offer = %d; want place %d", c.prios, c.jobs, h, c.want)
		}
	}
}

// LF2: of the same number the lowest slot, whose task may have come last.
func TestReadyBySlots(t *testing.T) {
	p := made(t)
	l := p.adds(3, 3, 3)
	for _, h := range l {
		p.pushes(h, api.Job{Length: 3})
	}
	p.offers(0, l[0])
	p.drop(l[0])
	p.offers(1, l[1])
	again := p.adds(3)[0]
	p.offers(2, l[1])
	p.pushes(again, api.Job{Length: 2})
	p.offers(3, again, again, l[1], l[2], l[2], l[2], 0)
}

// LF2, LF4: a task with a lesser number that comes later, or whose job does, goes ahead from there on, in the midst of another one's job.
func TestLesserComesLater(t *testing.T) {
	p := made(t)
	slow := p.adds(9)[0]
	p.pushes(slow, api.Job{Length: 4}, api.Job{Length: 1})
	p.offers(0, slow, slow)
	fast := p.adds(2)[0]
	p.offers(2, slow)
	p.pushes(fast, api.Job{Length: 2})
	p.offers(3, fast)
	faster := p.adds(1)[0]
	p.pushes(faster, api.Job{Length: 3, Cap: 1})
	p.offers(4, faster, fast, slow, slow, 0)
}

// LF2: each leaf of three tasks of four numbers, each with no job to two of a tick: who has the ticks, one by one.
func TestEachSmallLeaf(t *testing.T) {
	for set := range 12 * 12 * 12 {
		p := made(t)
		for i, rest := 0, set; i < 3; i, rest = i+1, rest/12 {
			h := p.adds(rest % 4)[0]
			p.pushes(h, slices.Repeat([]api.Job{{Length: 1}}, rest%12/4)...)
		}
		for now := range 7 {
			p.offer(now)
		}
	}
}

// offered is the leaf of one task with one job, that was given ticks: what an Offer answers.
func offered(t *testing.T, ticks int, job api.Job, now int) (api.Handle, int, int) {
	t.Helper()
	p := pairOf(t, fresh, map[int]api.Task{3: {Prio: 2, Jobs: []api.Job{job}, Acc: api.Account{Given: ticks, Own: ticks}}})
	return p.offer(now)
}

// LF2: Offer at the edges of time, and of a task that was given all ticks there are.
func TestOfferEdges(t *testing.T) {
	for now, want := range map[int]api.Handle{
		-1: 0, 0: numberOf(3, 1), 1: numberOf(3, 1), api.MaxTicks - 1: numberOf(3, 1), api.MaxTicks: 0, api.MaxTicks + 1: 0,
		math.MinInt: 0, math.MaxInt: 0, 1 << 32: 0, -1 << 32: 0,
	} {
		for _, ticks := range []int{0, 1, 77, mostTicks - 1} {
			if h, what, late := offered(t, ticks, api.Job{Length: 1, Due: mostTicks}, now); h != want || (what == markDone) != (want != 0) || late != 0 {
				t.Errorf("Offer(%d) behind %d ticks = %d, %d, %d; want %d", now, ticks, h, what, late, want)
			}
		}
		if h, what, late := offered(t, mostTicks, api.Job{Length: 1}, now); h != 0 || what != 0 || late != 0 {
			t.Errorf("Offer(%d) behind all ticks = %d, %d, %d", now, h, what, late)
		}
	}
	for _, now := range edges {
		offered(t, 0, api.Job{Length: 2, At: 5, Due: 3}, now)
		offered(t, 0, api.Job{Length: 1, At: mostTicks, Due: mostTicks}, now)
		offered(t, mostTicks, api.Job{Length: 2}, now)
	}
}

// LF2: where the first ready one can be given no more, nobody has the tick, whoever else is ready; behind its end others have it.
func TestOfferToNobodyElse(t *testing.T) {
	for _, slot := range []int{0, 4, 7} {
		p := pairOf(t, fresh, map[int]api.Task{slot: ticked(3, mostTicks), 2: ticked(4, 9), 5: ticked(4, 5)})
		full := numberOf(slot, 1)
		p.offers(0, 0, 0, 0)
		if h := p.l.Ready(); h != full {
			t.Errorf("Ready() = %d; want %d", h, full)
		}
		p.drop(full)
		p.offers(3, numberOf(2, 1), numberOf(2, 1))
	}
	p := pairOf(t, fresh, map[int]api.Task{1: ticked(3, mostTicks-1)})
	p.offers(0, numberOf(1, 1), 0)
}

// LF2: what became of a job, and how late: by none, by one, by many.
func TestOfferTellsTheJob(t *testing.T) {
	for _, c := range []struct {
		job        api.Job
		now        int
		what, late int
	}{
		{api.Job{Length: 2}, 5, 0, 0}, {api.Job{Length: 1}, 5, api.MarkDone, 0}, {api.Job{Length: 2, Cap: 1}, 5, api.MarkCut, 0},
		{api.Job{Length: 1, Cap: 1}, 5, api.MarkDone, 0}, {api.Job{Length: 2, Cap: 2}, 5, 0, 0}, {api.Job{Length: 1, Cap: 2}, 5, api.MarkDone, 0},
		{api.Job{Length: 1, At: 3, Due: 4}, 5, api.MarkDone, 0}, {api.Job{Length: 1, At: 3, Due: 4}, 6, api.MarkDone, 0},
		{api.Job{Length: 1, At: 3, Due: 4}, 7, api.MarkDone, 1}, {api.Job{Length: 1, At: 3, Due: 4}, 8, api.MarkDone, 2},
		{api.Job{Length: 9, Cap: 1, At: 3, Due: 4}, 6, api.MarkCut, 0}, {api.Job{Length: 9, Cap: 1, At: 3, Due: 4}, 7, api.MarkCut, 1},
		{api.Job{Length: 9, Cap: 1, At: 3, Due: 4}, 107, api.MarkCut, 101}, {api.Job{Length: 2, At: 3, Due: 4}, 107, 0, 0},
		{api.Job{Length: 1, At: 3}, 107, api.MarkDone, 0}, {api.Job{Length: 1, Due: 1}, mostTicks - 1, api.MarkDone, mostTicks - 1},
		{api.Job{Length: 1, Due: 1}, 0, api.MarkDone, 0}, {api.Job{Length: 1, At: mostTicks, Due: mostTicks}, 0, api.MarkDone, 0},
	} {
		if h, what, late := offered(t, 0, c.job, c.now); h != numberOf(3, 1) || what != c.what || late != c.late {
			t.Errorf("%v: Offer(%d) = %d, %d, %d; want %d, %d", c.job, c.now, h, what, late, c.what, c.late)
		}
	}
	if api.MarkDone != markDone || api.MarkCut != markCut {
		t.Errorf("MarkDone, MarkCut = %d, %d", api.MarkDone, api.MarkCut)
	}
}

// LF2: each small job at each small time.
func TestOfferEachSmallJob(t *testing.T) {
	for set := range 4 * 5 * 4 * 4 {
		job := api.Job{Length: set%4 + 1, Cap: set / 4 % 5, At: set / 20 % 4, Due: set / 80}
		for now := range 8 {
			p := pairOf(t, fresh, map[int]api.Task{0: {Jobs: []api.Job{job}}})
			for i := range 5 {
				p.offer(now + i)
			}
		}
	}
}

// LF1: what is dropped goes with its jobs, and tells its account; what comes to its slot has none of both.
func TestDrop(t *testing.T) {
	p := busy(t)
	for _, c := range []struct {
		slot int
		acc  api.Account
	}{
		{1, api.Account{Given: 20, Own: 20, Done: 4, Cut: 3, Late: 2}}, {6, api.Account{Given: mostTicks - 1, Own: mostTicks - 1, Cut: 5}},
		{2, api.Account{Given: 3, Own: 3, Done: 1}}, {4, api.Account{}}, {7, api.Account{}},
	} {
		h := p.m.handleAt(c.slot)
		if acc, err := p.drop(h); acc != c.acc || err != nil {
			t.Errorf("Drop(%d) = %v, %v; want %v", h, acc, err, c.acc)
		}
		if acc, err := p.drop(h); acc != (api.Account{}) || err != api.ErrHandle {
			t.Errorf("Drop(%d) again = %v, %v", h, acc, err)
		}
	}
	p.offers(0, 0)
	for _, h := range p.adds(4, 4, 4, 4, 4) {
		if x, err := p.l.Task(h); !alike(x, api.Task{Prio: 4}) || err != nil {
			t.Errorf("Task(%d) = %v, %v", h, x, err)
		}
	}
	p.offers(1, 0)
	p.pushes(p.m.all()[2], api.Job{Length: 1})
	p.offers(2, p.m.all()[2], 0)
}

// LF1: an account tells what its task was given, and what became of its jobs.
func TestAccount(t *testing.T) {
	p := made(t)
	h := p.adds(2)[0]
	p.pushes(h, api.Job{Length: 2}, api.Job{Length: 5, Cap: 3, Due: 4}, api.Job{Length: 1, Due: 6}, api.Job{Length: 1, Due: 6}, api.Job{Length: 7})
	p.offers(0, h, h, h, h, h, h, h, h, h)
	want := api.Account{Given: 9, Own: 9, Done: 3, Cut: 1, Late: 2}
	if x, err := p.l.Task(h); x.Acc != want || err != nil || !slices.Equal(x.Jobs, []api.Job{{Length: 5}}) {
		t.Errorf("Task(%d) = %v, %v; want %v", h, x, err, want)
	}
	if acc, err := p.drop(h); acc != want || err != nil {
		t.Errorf("Drop(%d) = %v, %v; want %v", h, acc, err, want)
	}
}

// spoilJobs changes a list of jobs, its spare room too.
func spoilJobs(l []api.Job) {
	for i := range l[:cap(l)] {
		l[:cap(l)][i] = api.Job{Length: -1, Cap: -2, At: -3, Due: -4}
	}
}

// spoilSaved changes what Save says, spare room too.
func spoilSaved(gens []int, taken []bool, tasks []api.Task) {
	for i := range gens[:cap(gens)] {
		gens[:cap(gens)][i] = -9
	}
	for i, is := range taken[:cap(taken)] {
		taken[:cap(taken)][i] = !is
	}
	for i, x := range tasks[:cap(tasks)] {
		spoilJobs(x.Jobs)
		tasks[:cap(tasks)][i] = api.Task{Prio: -5, Jobs: []api.Job{{}}}
	}
}

// LF3: what Task, All, Clone and Save answer can be changed by who called, with nothing else changed.
func TestAnswersAreNew(t *testing.T) {
	for _, p := range starts(t) {
		for _, h := range p.m.all() {
			other, _ := p.l.Task(h)
			was := copied(other)
			x, _ := p.l.Task(h)
			spoilJobs(x.Jobs)
			_ = append(x.Jobs, fence)
			check(t, p.l, p.m)
			if !alike(other, was) {
				t.Fatalf("an answer of Task changed with another one: %v to %v", was, other)
			}
		}
		other := p.l.All()
		all := p.l.All()
		for i := range all[:cap(all)] {
			all[:cap(all)][i] = -1
		}
		check(t, p.l, p.m)
		if !slices.Equal(other, p.m.all()) {
			t.Fatalf("an answer of All changed with another one: %v", other)
		}
		gens, taken, tasks := p.l.Save()
		spoilSaved(p.l.Save())
		check(t, p.l, p.m)
		if !slices.Equal(gens, p.m.gens[:]) || !slices.Equal(taken, p.m.there[:]) || !slices.EqualFunc(tasks, p.m.told(), alike) {
			t.Fatalf("an answer of Save changed with another one: %v, %v, %v", gens, taken, tasks)
		}
	}
}

// LF3: lists that were answered stay as they are, whatever is done to the leaf.
func TestAnswersStay(t *testing.T) {
	for _, p := range starts(t) {
		was := p.m.twin()
		gens, taken, tasks := p.l.Save()
		all := p.l.All()
		told := []api.Task{}
		for _, h := range all {
			x, _ := p.l.Task(h)
			told = append(told, x)
		}
		for now := range 12 {
			p.offer(now)
		}
		p.add(0)
		for _, h := range all {
			p.push(h, api.Job{Length: 2}, 50)
			p.drop(h)
			p.add(1)
		}
		if !slices.Equal(gens, was.gens[:]) || !slices.Equal(taken, was.there[:]) || !slices.EqualFunc(tasks, was.told(), alike) {
			t.Errorf("Save's answer became %v, %v, %v", gens, taken, tasks)
		}
		if !slices.Equal(all, was.all()) || !slices.EqualFunc(told, was.told(), alike) {
			t.Errorf("All's and Task's answers became %v, %v", all, told)
		}
	}
}

// Rule 3: no two lists of one answer share any, spare room too: of Save's tasks each has jobs of its own.
func TestListsOfOneAnswer(t *testing.T) {
	jobs := []api.Job{{Length: 3}, {Length: 4}, {Length: 5}}
	same := api.Task{Prio: 1, Jobs: jobs[:2]}
	l, err := Load(slices.Clone(fresh[:]), []bool{true, true, false, true, false, false, false, false}, []api.Task{same, same, {Prio: 1, Jobs: jobs[1:]}})
	if err != nil {
		t.Fatal(err)
	}
	for place := range 3 {
		_, _, tasks := l.Save()
		was := []api.Task{copied(tasks[0]), copied(tasks[1]), copied(tasks[2])}
		spoilJobs(tasks[place].Jobs)
		_ = append(tasks[place].Jobs, fence, fence, fence)
		for i, x := range tasks {
			if i != place && !alike(x, was[i]) {
				t.Errorf("task %d changed with task %d: %v to %v", i, place, was[i], x)
			}
		}
	}
	m := &model{gens: fresh}
	for slot, x := range map[int]api.Task{0: same, 1: same, 3: {Prio: 1, Jobs: jobs[1:]}} {
		m.there[slot], m.tasks[slot] = true, copied(x)
	}
	check(t, l, m)
	p := &pair{t, l, m}
	p.push(numberOf(0, 1), api.Job{Length: 9}, 3)
	p.push(numberOf(1, 1), api.Job{Length: 8}, 3)
	for now := range 40 {
		p.offer(now)
	}
}

// stir does a row of calls by chance to a pair.
func (p *pair) stir(r *rand.Rand, many int) {
	p.t.Helper()
	for range many {
		p.step(r)
	}
}

// step does a call by chance to a pair, mostly one that succeeds.
func (p *pair) step(r *rand.Rand) {
	p.t.Helper()
	switch n := r.Intn(20); {
	case n < 3:
		p.add(number(r, r.Intn(4)))
	case n < 4:
		p.drop(p.some(r))
	case n < 10:
		p.push(p.some(r), api.Job{Length: number(r, 1+r.Intn(4)), Cap: number(r, r.Intn(4)), At: number(r, r.Intn(9)), Due: number(r, r.Intn(9))}, number(r, r.Intn(20)))
	default:
		p.offer(number(r, r.Intn(30)))
	}
}

// number is mostly a number that was chosen, sometimes one at the edges.
func number(r *rand.Rand, n int) int {
	if r.Intn(25) == 0 {
		return edges[r.Intn(len(edges))]
	}
	return n
}

// some is mostly the handle of a task that is there, sometimes one of nothing.
func (p *pair) some(r *rand.Rand) api.Handle {
	l := p.m.all()
	if len(l) == 0 || r.Intn(12) == 0 {
		l = p.m.wrong()
	}
	return l[r.Intn(len(l))]
}

// LF3: a clone, a clone of that, and the leaf that they came from are each worked on apart.
func TestClone(t *testing.T) {
	for name, p := range starts(t) {
		r := rand.New(rand.NewSource(int64(len(name))))
		for range 30 {
			a := p.clone()
			b := a.clone()
			l := []*pair{p, a, b}
			for _, q := range l {
				q.stir(r, 5)
				for _, other := range l {
					check(t, other.l, other.m)
				}
			}
			p = l[r.Intn(3)]
		}
	}
}

// LF3: a clone stays as it is when the leaf is emptied, and the other way round.
func TestCloneStays(t *testing.T) {
	for range 2 {
		p := busy(t)
		q := p.clone()
		for _, h := range p.m.all() {
			p.drop(h)
		}
		p.adds(1, 2, 3)
		check(t, q.l, q.m)
		for now := range 20 {
			q.offer(now)
		}
		q.adds(9)
		check(t, p.l, p.m)
		p, q = q, p
	}
}

// LF3, LF4: Load of what Save says is the leaf, at every step of rows of calls, and goes on alike.
func TestLoadOfSave(t *testing.T) {
	for name, p := range starts(t) {
		p.loaded()
		for seed := range 12 {
			r := rand.New(rand.NewSource(int64(seed*100 + len(name))))
			q := p.clone()
			for range 60 {
				q.step(r)
				same := q.loaded()
				seed := r.Int63()
				q.stir(rand.New(rand.NewSource(seed)), 3)
				same.stir(rand.New(rand.NewSource(seed)), 3)
				check(t, q.l, same.m)
				check(t, same.l, q.m)
			}
		}
	}
}

// LF3: what was handed to Load is not changed by it, nor by what is done to the leaf, and may be changed afterwards.
func TestLoadKeepsNothing(t *testing.T) {
	for name, p := range starts(t) {
		for _, spoilt := range []bool{false, true} {
			gens, taken, tasks := fencedSave(p.m)
			l, err := Load(gens, taken, tasks)
			if err != nil {
				t.Fatalf("%s: Load: %v", name, err)
			}
			checkFenced(t, p.m, gens, taken, tasks)
			if spoilt {
				spoilSaved(gens, taken, tasks)
			}
			q := &pair{t, l, p.m.twin()}
			check(t, q.l, q.m)
			q.stir(rand.New(rand.NewSource(7)), 60)
			if !spoilt {
				checkFenced(t, p.m, gens, taken, tasks)
			}
		}
	}
}

// fencedSave is what a model's leaf saves, each list with spare room in which something stands.
func fencedSave(m *model) ([]int, []bool, []api.Task) {
	gens := append(slices.Clone(m.gens[:]), -7, -7)[:mostTasks]
	taken := append(slices.Clone(m.there[:]), true, true)[:mostTasks]
	tasks := append(m.told(), api.Task{Prio: -7}, api.Task{Prio: -7})
	for i, x := range tasks {
		tasks[i].Jobs = append(slices.Clone(x.Jobs), fence, fence)[:len(x.Jobs)]
	}
	return gens, taken, tasks[:len(tasks)-2]
}

// checkFenced tells whether what was handed to Load is what it was, spare room too.
func checkFenced(t *testing.T, m *model, gens []int, taken []bool, tasks []api.Task) {
	t.Helper()
	wantGens, wantTaken, wantTasks := fencedSave(m)
	n := len(tasks)
	if !slices.Equal(gens[:mostTasks+2], wantGens[:mostTasks+2]) || !slices.Equal(taken[:mostTasks+2], wantTaken[:mostTasks+2]) || n != len(wantTasks) {
		t.Fatalf("Load's arguments became %v, %v, %v", gens[:mostTasks+2], taken[:mostTasks+2], tasks)
	}
	for i, x := range tasks[:n+2] {
		many, want := len(x.Jobs), wantTasks[:n+2][i]
		if !alike(x, want) || !slices.Equal(x.Jobs[:many+2], want.Jobs[:many+2]) {
			t.Fatalf("Load's task %d became %v; want %v", i, x, want)
		}
	}
}

// refused holds Load of what makes no leaf against ErrState.
func refused(t *testing.T, name string, gens []int, taken []bool, tasks []api.Task) {
	t.Helper()
	if l, err := Load(gens, taken, tasks); l != nil || err != api.ErrState {
		t.Errorf("%s: Load(%v, %v, %v) = %v, %v", name, gens, taken, tasks, l, err)
	}
}

// LF3: too few and too many generations, flags, tasks, and none at all.
func TestLoadOfWrongNumbers(t *testing.T) {
	refused(t, "nil", nil, nil, nil)
	refused(t, "empty", []int{}, []bool{}, []api.Task{})
	for _, many := range []int{0, 1, 7, 9, 16, 4096, 4097, 5000} {
		gens, taken := slices.Repeat([]int{1}, many), make([]bool, many)
		refused(t, "as many flags", gens, taken, nil)
		refused(t, "MaxTasks flags", gens, make([]bool, mostTasks), nil)
		refused(t, "MaxTasks generations", slices.Repeat([]int{1}, mostTasks), taken, nil)
		if many > 0 {
			taken[many-1] = true
			refused(t, "as many flags, the last one's task", gens, taken, []api.Task{{}})
		}
	}
	for set := range 1 << mostTasks {
		taken := []bool{}
		many := 0
		for slot := range mostTasks {
			taken = append(taken, set>>slot&1 == 1)
			many += set >> slot & 1
		}
		for n := range mostTasks + 3 {
			if n != many {
				refused(t, "another number of tasks", fresh[:], taken, make([]api.Task, n))
			} else if l, err := Load(fresh[:], taken, make([]api.Task, n)); l == nil || err != nil {
				t.Errorf("Load(.., %v, %d tasks): %v", taken, n, err)
			}
		}
		refused(t, "very many tasks", fresh[:], taken, make([]api.Task, 5000))
	}
}

// LF3: each slot's generation: of a taken one from 1 to MaxGen, of a free one to MaxGen + 1.
func TestLoadOfGenerations(t *testing.T) {
	for _, gen := range append([]int{lastGen - 1, lastGen, lastGen + 1, lastGen + 2, 1 << 20}, edges...) {
		for slot := range mostTasks {
			gens := fresh
			gens[slot] = gen
			if within(gen, 1, lastGen+1) {
				pairOf(t, gens, nil).add(3)
			} else {
				refused(t, "a free slot", gens[:], make([]bool, mostTasks), nil)
			}
			if within(gen, 1, lastGen) {
				pairOf(t, gens, map[int]api.Task{slot: ticked(1, 2)}).offer(3)
				continue
			}
			taken := make([]bool, mostTasks)
			taken[slot] = true
			refused(t, "a taken slot", gens[:], taken, []api.Task{ticked(1, 2)})
		}
	}
}

// wrongs are changes, by names, that make a task that may be one that may not.
func wrongs() map[string]func(*api.Task) {
	l := map[string]func(*api.Task){
		"prio -1":       func(x *api.Task) { x.Prio = -1 },
		"prio 32":       func(x *api.Task) { x.Prio = mostPrio + 1 },
		"more own":      func(x *api.Task) { x.Acc.Own++ },
		"less own":      func(x *api.Task) { x.Acc.Own-- },
		"lent":          func(x *api.Task) { x.Acc.Lent = 1 },
		"lent below":    func(x *api.Task) { x.Acc.Lent = -1 },
		"given below":   func(x *api.Task) { x.Acc = api.Account{Given: -1, Own: -1} },
		"given beyond":  func(x *api.Task) { x.Acc = api.Account{Given: mostTicks + 1, Own: mostTicks + 1} },
		"done below":    func(x *api.Task) { x.Acc.Done = -1 },
		"cut below":     func(x *api.Task) { x.Acc.Cut = -1 },
		"late below":    func(x *api.Task) { x.Acc.Late = -1 },
		"done beyond":   func(x *api.Task) { x.Acc.Done = x.Acc.Given - x.Acc.Cut + 1 },
		"cut beyond":    func(x *api.Task) { x.Acc.Cut = x.Acc.Given - x.Acc.Done + 1 },
		"late beyond":   func(x *api.Task) { x.Acc.Late = x.Acc.Done + x.Acc.Cut + 1 },
		"greatest":      func(x *api.Task) { x.Acc.Done, x.Acc.Cut, x.Acc.Late = math.MaxInt, math.MaxInt, math.MaxInt },
		"too many jobs": func(x *api.Task) { x.Jobs = slices.Repeat([]api.Job{{Length: 1}}, mostJobs+1) },
	}
	for i, job := range []api.Job{
		{}, {Length: -1}, {Length: longest + 1}, {Length: 1, Cap: -1}, {Length: 1, Cap: longest + 1}, {Length: 1, At: -1}, {Length: 1, At: mostTicks + 1},
		{Length: 1, Due: -1}, {Length: 1, Due: mostTicks + 1}, {Length: math.MinInt}, {Length: math.MaxInt, Cap: math.MaxInt, At: math.MaxInt, Due: math.MaxInt},
	} {
		l[fmt.Sprintf("job %d first", i)] = func(x *api.Task) { x.Jobs = append([]api.Job{job}, x.Jobs...) }
		l[fmt.Sprintf("job %d last", i)] = func(x *api.Task) { x.Jobs = append(slices.Clone(x.Jobs), job) }
	}
	return l
}

// LF3: a task that may not be, as the first one and as the last one of them, and as one in the midst.
func TestLoadOfWrongTasks(t *testing.T) {
	good := api.Task{Prio: 3, Jobs: []api.Job{{Length: 2, At: 4, Due: 5}}, Acc: api.Account{Given: 9, Own: 9, Done: 2, Cut: 1, Late: 1}}
	for name, do := range wrongs() {
		for many := 1; many <= mostTasks; many++ {
			for place := range many {
				taken := make([]bool, mostTasks)
				tasks := []api.Task{}
				for i := range many {
					taken[mostTasks-1-i] = true
					tasks = append(tasks, copied(good))
				}
				if _, err := Load(fresh[:], taken, tasks); err != nil {
					t.Fatalf("Load(.., %v, %v): %v", taken, tasks, err)
				}
				do(&tasks[place])
				refused(t, name, fresh[:], taken, tasks)
			}
		}
	}
}

// LF3: tasks at the ends of what they may be are loaded, and worked on.
func TestLoadOfEdges(t *testing.T) {
	most := api.Job{Length: longest, Cap: longest, At: mostTicks, Due: mostTicks}
	for _, x := range []api.Task{
		{}, {Prio: mostPrio}, {Jobs: []api.Job{}}, {Prio: mostPrio, Jobs: slices.Repeat([]api.Job{most}, mostJobs)}, {Jobs: []api.Job{{Length: 1, Cap: 1, At: 1, Due: 1}}},
		ticked(0, mostTicks), ticked(mostPrio, mostTicks-1), {Acc: api.Account{Given: mostTicks, Own: mostTicks, Done: mostTicks, Late: mostTicks}},
		{Acc: api.Account{Given: 2, Own: 2, Done: 1, Cut: 1, Late: 2}}, {Acc: api.Account{Given: 1, Own: 1}},
	} {
		for slot := range mostTasks {
			p := pairOf(t, fresh, map[int]api.Task{slot: x})
			h := numberOf(slot, 1)
			p.offer(0)
			p.push(h, most, mostTicks)
			p.offer(mostTicks - 1)
			p.add(0)
			p.drop(h)
		}
	}
}

// LF4: nobody is passed by, by the leaf's own words alone: who uses a tick has a job, and no other task that has one has a lesser number, nor the same one and a lower slot.
func TestNobodyIsPassedBy(t *testing.T) {
	for seed := range 40 {
		r := rand.New(rand.NewSource(int64(seed)))
		p := made(t)
		used, ready := 0, 0
		for now := range 150 {
			p.step(r)
			before := map[api.Handle]api.Task{}
			for _, h := range p.l.All() {
				before[h], _ = p.l.Task(h)
			}
			h, _, _ := p.offer(now)
			waits := false
			for other, x := range before {
				waits = waits || len(x.Jobs) > 0
				if h != 0 && len(x.Jobs) > 0 && (x.Prio < before[h].Prio || x.Prio == before[h].Prio && other < h) {
					t.Fatalf("%d was passed by for %d: %v", other, h, before)
				}
			}
			if h != 0 && len(before[h].Jobs) == 0 || (h != 0) != waits {
				t.Fatalf("Offer(%d): %d of %v", now, h, before)
			}
			used, ready = used+count(h != 0), ready+count(waits)
		}
		if used != ready || used == 0 {
			t.Errorf("%d ticks were used; %d were offered while a task was ready", used, ready)
		}
	}
}

// count is 1 of what is, else 0.
func count(is bool) int {
	if is {
		return 1
	}
	return 0
}

// LF4: ticks that are used are just those that were offered while a task was ready: the accounts' sum is their number.
func TestTicksUsed(t *testing.T) {
	for seed := range 40 {
		r := rand.New(rand.NewSource(int64(seed)))
		p := made(t)
		l := p.adds(r.Intn(4), r.Intn(4), r.Intn(4), r.Intn(4))
		used := 0
		for now := range 200 {
			if r.Intn(3) == 0 {
				p.push(l[r.Intn(len(l))], api.Job{Length: 1 + r.Intn(6), Cap: r.Intn(5), Due: r.Intn(20)}, now)
			}
			used += count(p.l.Ready() != 0)
			p.offer(now)
		}
		sum := 0
		for _, h := range l {
			acc, err := p.drop(h)
			if err != nil || acc.Own != acc.Given {
				t.Errorf("Drop(%d) = %v, %v", h, acc, err)
			}
			sum += acc.Given
		}
		if sum != used || used == 0 {
			t.Errorf("%d ticks were given; %d were used", sum, used)
		}
	}
}

// LF1 to LF4: every row of five calls of a few.
func TestEachRow(t *testing.T) {
	calls := []func(*pair){
		func(p *pair) { p.add(1) },
		func(p *pair) { p.add(0) },
		func(p *pair) { p.drop(numberOf(0, 1)) },
		func(p *pair) { p.push(numberOf(0, 1), api.Job{Length: 2, Due: 1}, 0) },
		func(p *pair) { p.push(numberOf(1, 1), api.Job{Length: 2, Cap: 1}, 1) },
		func(p *pair) { p.push(numberOf(0, 2), api.Job{Length: 1}, 1) },
		func(p *pair) { p.offer(1) },
		func(p *pair) { p.offer(3) },
	}
	const long = 5
	rows := 1
	for range long {
		rows *= len(calls)
	}
	for row := range rows {
		p := &pair{t, New(), modelOf()}
		for range long {
			calls[row%len(calls)](p)
			row /= len(calls)
		}
	}
}

// LF1 to LF4: rows of calls by chance, of leaves of all sorts.
func TestRows(t *testing.T) {
	for seed := range 60 {
		for _, p := range starts(t) {
			r := rand.New(rand.NewSource(int64(seed)))
			p.stir(r, 150)
			p.wrongHandles()
		}
	}
}

// LF3: questions change nothing, and what was refused has changed nothing.
func TestQuestionsChangeNothing(t *testing.T) {
	for name, p := range starts(t) {
		gens, taken, tasks := p.l.Save()
		p.l.Ready()
		p.l.All()
		p.l.Clone()
		p.wrongHandles()
		for _, h := range p.m.all() {
			p.l.Task(h)
			for _, now := range []int{-1, mostTicks + 1} {
				p.push(h, api.Job{Length: 1}, now)
				p.offer(now)
			}
			p.push(h, api.Job{}, 0)
		}
		p.add(-1)
		p.offer(mostTicks)
		again, flags, told := p.l.Save()
		if !slices.Equal(gens, again) || !slices.Equal(taken, flags) || !slices.EqualFunc(tasks, told, alike) {
			t.Errorf("%s: %v, %v, %v became %v, %v, %v", name, gens, taken, tasks, again, flags, told)
		}
	}
}

// Rule 4: leaves are alone: what is done to one is not to be seen in another one, and the same row answers the same again.
func TestLeavesAreAlone(t *testing.T) {
	first := made(t)
	first.stir(rand.New(rand.NewSource(3)), 100)
	others := []*pair{made(t), made(t), busy(t)}
	for i := range 100 {
		for k, p := range others {
			p.stir(rand.New(rand.NewSource(int64(i*10+k))), 1)
		}
	}
	for _, p := range others {
		check(t, p.l, p.m)
	}
	again := made(t)
	again.stir(rand.New(rand.NewSource(3)), 100)
	check(t, again.l, first.m)
	check(t, first.l, again.m)
}

// LF1 to LF4: rows of calls as bytes tell them.
func FuzzCalls(f *testing.F) {
	f.Add([]byte{0, 3, 0, 1, 2, 0, 2, 0, 0, 2, 1, 2, 0, 0, 3, 1, 3, 2, 3, 3, 4, 5})
	f.Add([]byte{0, 40, 0, 200, 1, 0, 3, 255})
	f.Fuzz(func(t *testing.T, row []byte) {
		p := made(t)
		next := func() int {
			if len(row) == 0 {
				return 0
			}
			n := int(row[0])
			row = row[1:]
			if n >= 200 {
				return edges[n%len(edges)]
			}
			return n
		}
		h := func() api.Handle {
			l := append(p.m.all(), p.m.wrong()...)
			return l[uint(next())%uint(len(l))]
		}
		for len(row) > 0 {
			switch next() % 6 {
			case 0:
				p.add(next())
			case 1:
				p.drop(h())
			case 2:
				p.push(h(), api.Job{Length: next(), Cap: next(), At: 7, Due: next()}, next())
			case 3:
				p.offer(next())
			case 4:
				p = p.clone()
			default:
				p = p.loaded()
			}
		}
	})
}
