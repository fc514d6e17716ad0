package slack

import (
	"fmt"
	"math"
	"math/rand"
	"reflect"
	"slices"
	"testing"

	"tithe/api"
	"tithe/task"
)

// What the document writes: a best-effort task's handle is kindFactor + slot * slotFactor + generation; the slots, the last generation, the greatest priority, how many jobs may wait, the greatest length, the greatest time, what becomes of a job.
const (
	kindFactor = 3 * 1099511627776
	slotFactor = 1048576
	mostTasks  = 16
	lastGen    = 1023
	mostPrio   = 31
	mostJobs   = 8
	longest    = 1048576
	mostTicks  = 1073741824
	goesOn     = 0
	isDone     = 1
	isCut      = 2
)

// edges are numbers at which something might change, wrong ones among them.
var edges = []int{
	math.MinInt, math.MinInt + 1, -1 << 32, -mostTicks, -longest, -2, -1, 0, 1, 2, 7, 8, 9, 15, 16, 17, 30, 31, 32, 33,
	longest - 1, longest, longest + 1, 2 * longest, mostTicks - 2, mostTicks - 1, mostTicks, mostTicks + 1, 2 * mostTicks,
	1 << 32, 1<<32 + 1, math.MaxInt - 1, math.MaxInt,
}

// fence stands in the spare room of lists of jobs that are handed in.
var fence = api.Job{Length: -77, Cap: -78, At: -79, Due: -80}

// numberOf is a best-effort task's handle as layer 2 says it.
func numberOf(slot, gen int) api.Handle { return api.Handle(kindFactor + slot*slotFactor + gen) }

// strangers are numbers that are no best-effort task's handle, whatever the pool: such of other kinds, of slots beyond the table, and such that would be one's, if cut off or shifted.
var strangers = []api.Handle{
	0, -1, -2, 1, 2, lastGen, slotFactor, slotFactor + 1, math.MinInt, math.MinInt + 1, math.MaxInt - 1, math.MaxInt,
	kindFactor, kindFactor - 1, kindFactor/3 + 1, kindFactor/3*2 + 1, kindFactor/3*4 + 1, 2*kindFactor + 1, kindFactor/3 + slotFactor + 1, kindFactor/3*2 + slotFactor + 1,
	-numberOf(0, 1), math.MinInt + numberOf(0, 1), 1<<48 + numberOf(0, 1), 1<<62 + numberOf(0, 1), numberOf(-1, 1),
	numberOf(mostTasks, 1), numberOf(mostTasks+1, 1), numberOf(2*mostTasks, 1), numberOf(63, 1), numberOf(4095, 1), numberOf(4096, 1),
	numberOf(65535, 1), numberOf(65535, lastGen), numberOf(65536, 1), numberOf(65536+1, 1),
}

// model is what a pool must be like, by its slots.
type model struct {
	gens  [mostTasks]int
	there [mostTasks]bool
	tasks [mostTasks]api.Task
	last  int
	gone  []api.Handle
}

// fresh are the generations of slots that nothing was given of.
var fresh = [mostTasks]int{1, 1, 1, 1, 1, 1, 1, 1, 1, 1, 1, 1, 1, 1, 1, 1}

// modelOf is the model of a pool without tasks.
func modelOf() *model { return &model{gens: fresh, last: -1} }

// twin is a model of its own.
func (m *model) twin() *model {
	other := *m
	other.gone = slices.Clone(m.gone)
	for slot, x := range m.tasks {
		other.tasks[slot] = copied(x)
	}
	return &other
}

// copied is a task with a list of jobs of its own.
func copied(x api.Task) api.Task {
	x.Jobs = append([]api.Job{}, x.Jobs...)
	return x
}

// handleAt is the handle of the task at a slot.
func (m *model) handleAt(slot int) api.Handle { return numberOf(slot, m.gens[slot]) }

// slotOf is the slot of a task that is there; -1 of what is not.
func (m *model) slotOf(h api.Handle) int {
	for slot := range m.there {
		if m.there[slot] && m.handleAt(slot) == h {
			return slot
		}
	}
	return -1
}

// all are the handles of the tasks that are there, the lowest slot first.
func (m *model) all() []api.Handle {
	l := []api.Handle{}
	for slot, there := range m.there {
		if there {
			l = append(l, m.handleAt(slot))
		}
	}
	return l
}

// told are the tasks that are there, the lowest slot first.
func (m *model) told() []api.Task {
	l := []api.Task{}
	for slot, there := range m.there {
		if there {
			l = append(l, copied(m.tasks[slot]))
		}
	}
	return l
}

// within tells whether a number is from one to another one.
func within(n, low, high int) bool { return !(n < low) && !(n > high) }

// create is what Create must answer.
func (m *model) create(prio int) (api.Handle, error) {
	if !within(prio, 0, mostPrio) {
		return 0, api.ErrRange
	}
	for slot := range m.there {
		if !m.there[slot] && m.gens[slot] != lastGen+1 {
			m.there[slot], m.tasks[slot] = true, api.Task{Prio: prio}
			return m.handleAt(slot), nil
		}
	}
	return 0, api.ErrRoom
}

// remove is what Remove must answer.
func (m *model) remove(h api.Handle) error {
	slot := m.slotOf(h)
	if slot < 0 {
		return api.ErrHandle
	}
	m.there[slot], m.tasks[slot] = false, api.Task{}
	m.gens[slot]++
	m.gone = append(m.gone, h)
	return nil
}

// push is what Push must answer.
func (m *model) push(h api.Handle, j api.Job, now int) error {
	slot := m.slotOf(h)
	switch {
	case slot < 0:
		return api.ErrHandle
	case !within(now, 0, mostTicks):
		return api.ErrArg
	case !within(j.Length, 1, longest) || !within(j.Cap, 0, longest) || !within(j.Due, 0, mostTicks):
		return api.ErrRange
	case len(m.tasks[slot].Jobs) == mostJobs:
		return api.ErrFull
	}
	m.tasks[slot].Jobs = append(m.tasks[slot].Jobs, api.Job{Length: j.Length, Cap: j.Cap, At: now, Due: j.Due})
	return nil
}

// next is the slot of the task that has the next tick: priority by priority, and in each one slot by slot from behind the last one's on; -1: none.
func (m *model) next() int {
	for prio := 0; prio <= mostPrio; prio++ {
		for step := 1; step <= mostTasks; step++ {
			slot := (m.last + step) % mostTasks
			if x := m.tasks[slot]; m.there[slot] && x.Prio == prio && len(x.Jobs) > 0 {
				return slot
			}
		}
	}
	return -1
}

// give is what Give must answer.
func (m *model) give(now int) (api.Handle, int, int, bool) {
	slot := m.next()
	if slot < 0 || !within(now, 0, mostTicks-1) || m.tasks[slot].Acc.Given == mostTicks {
		return 0, 0, 0, false
	}
	m.last = slot
	x := &m.tasks[slot]
	x.Acc.Given, x.Acc.Own = x.Acc.Given+1, x.Acc.Own+1
	job := &x.Jobs[0]
	capped := job.Cap > 0
	job.Length--
	if capped {
		job.Cap--
	}
	what := goesOn
	if job.Length == 0 {
		what = isDone
		x.Acc.Done++
	} else if capped && job.Cap == 0 {
		what = isCut
		x.Acc.Cut++
	}
	if what == goesOn {
		return m.handleAt(slot), goesOn, 0, true
	}
	late := 0
	if due := job.At + job.Due; job.Due != 0 && due < now+1 {
		late = now + 1 - due
		x.Acc.Late++
	}
	x.Jobs = x.Jobs[1:]
	return m.handleAt(slot), what, late, true
}

// wrong are handles that name no task of a model's pool: strangers, of other kinds, of the generations beside, of free slots, and what has gone.
func (m *model) wrong() []api.Handle {
	l := slices.Concat(strangers, m.gone)
	for slot, gen := range m.gens {
		h := numberOf(slot, gen)
		if !m.there[slot] {
			l = append(l, h)
		}
		l = append(l, numberOf(slot, gen-1), numberOf(slot, gen+1), numberOf(slot, 0), numberOf(slot, lastGen+1), -h)
		l = append(l, h-kindFactor/3*2, h-kindFactor/3, h+kindFactor/3, h+kindFactor, h-kindFactor)
	}
	return l
}

// alike tells whether two tasks are equal in all, no jobs being no jobs.
func alike(a, b api.Task) bool {
	return a.Prio == b.Prio && a.Acc == b.Acc && slices.Equal(a.Jobs, b.Jobs)
}

// check holds all that a pool tells against a model.
func check(t *testing.T, p *Pool, m *model) {
	t.Helper()
	if got := p.List(); !slices.Equal(got, m.all()) {
		t.Fatalf("List() = %v; want %v", got, m.all())
	}
	var first api.Handle
	slot := m.next()
	if slot >= 0 {
		first = m.handleAt(slot)
	}
	if got, is := p.Next(); got != first || is != (slot >= 0) {
		t.Fatalf("Next() = %d, %t; want %d; last %d, %v", got, is, first, m.last, m.told())
	}
	if got := p.Ready(); got != (slot >= 0) {
		t.Fatalf("Ready() = %t; %v", got, m.told())
	}
	told := m.told()
	for place, h := range m.all() {
		if got, err := p.Of(h); !alike(got, told[place]) || err != nil {
			t.Fatalf("Of(%d) = %v, %v; want %v", h, got, err, told[place])
		}
	}
	gens, taken, tasks, last := p.Save()
	if !slices.Equal(gens, m.gens[:]) || !slices.Equal(taken, m.there[:]) || !slices.EqualFunc(tasks, told, alike) || last != m.last {
		t.Fatalf("Save() = %v, %v, %v, %d; want %v, %v, %v, %d", gens, taken, tasks, last, m.gens, m.there, told, m.last)
	}
}

// pair is a pool and the model that it is held against, call by call.
type pair struct {
	t *testing.T
	p *Pool
	m *model
}

// made is a pair without tasks.
func made(t *testing.T) *pair {
	t.Helper()
	q := &pair{t, New(), modelOf()}
	check(t, q.p, q.m)
	return q
}

// twin is a pair of its own, of the pool's Twin.
func (q *pair) twin() *pair {
	q.t.Helper()
	other := &pair{q.t, q.p.Twin(), q.m.twin()}
	check(q.t, other.p, other.m)
	return other
}

// loaded is a pair of its own, of the pool that is loaded of what Save says.
func (q *pair) loaded() *pair {
	q.t.Helper()
	p, err := Load(q.p.Save())
	if p == nil || err != nil {
		q.t.Fatalf("Load of Save: %v", err)
	}
	other := &pair{q.t, p, q.m.twin()}
	check(q.t, other.p, other.m)
	return other
}

func (q *pair) create(prio int) (api.Handle, error) {
	q.t.Helper()
	got, err := q.p.Create(prio)
	want, wantErr := q.m.create(prio)
	if got != want || err != wantErr {
		q.t.Fatalf("Create(%d) = %d, %v; want %d, %v", prio, got, err, want, wantErr)
	}
	check(q.t, q.p, q.m)
	return got, err
}

func (q *pair) remove(h api.Handle) error {
	q.t.Helper()
	err := q.p.Remove(h)
	if want := q.m.remove(h); err != want {
		q.t.Fatalf("Remove(%d): %v; want %v", h, err, want)
	}
	check(q.t, q.p, q.m)
	return err
}

func (q *pair) push(h api.Handle, j api.Job, now int) error {
	q.t.Helper()
	err := q.p.Push(h, j, now)
	if want := q.m.push(h, j, now); err != want {
		q.t.Fatalf("Push(%d, %v, %d): %v; want %v", h, j, now, err, want)
	}
	check(q.t, q.p, q.m)
	return err
}

func (q *pair) give(now int) (api.Handle, int, int, bool) {
	q.t.Helper()
	was, last := q.m.told(), q.m.last
	got, what, late, is := q.p.Give(now)
	want, wantWhat, wantLate, wantIs := q.m.give(now)
	if got != want || what != wantWhat || late != wantLate || is != wantIs {
		q.t.Fatalf("Give(%d) = %d, %d, %d, %t; want %d, %d, %d, %t; last %d, %v", now, got, what, late, is, want, wantWhat, wantLate, wantIs, last, was)
	}
	check(q.t, q.p, q.m)
	return got, what, late, is
}

// creates creates tasks of priorities, for which there is room.
func (q *pair) creates(prios ...int) []api.Handle {
	q.t.Helper()
	l := []api.Handle{}
	for _, prio := range prios {
		h, err := q.create(prio)
		if err != nil {
			q.t.Fatalf("Create(%d): %v", prio, err)
		}
		l = append(l, h)
	}
	return l
}

// pushes pushes jobs, which may be, at 0.
func (q *pair) pushes(h api.Handle, jobs ...api.Job) {
	q.t.Helper()
	for _, j := range jobs {
		if err := q.push(h, j, 0); err != nil {
			q.t.Fatalf("Push(%d, %v, 0): %v", h, j, err)
		}
	}
}

// gives gives ticks from a time on, and holds who had them against handles; 0: nobody.
func (q *pair) gives(from int, want ...api.Handle) {
	q.t.Helper()
	for i, h := range want {
		if got, _, _, is := q.give(from + i); got != h || is != (h != 0) {
			q.t.Fatalf("Give(%d): %d, %t; want %d", from+i, got, is, h)
		}
	}
}

// pairOf is a pair that is loaded: of each slot its generation, and of those that are taken the task.
func pairOf(t *testing.T, gens [mostTasks]int, tasks map[int]api.Task, last int) *pair {
	t.Helper()
	m := &model{gens: gens, last: last}
	for slot, x := range tasks {
		m.there[slot], m.tasks[slot] = true, copied(x)
	}
	p, err := Load(slices.Clone(gens[:]), slices.Clone(m.there[:]), m.told(), last)
	if p == nil || err != nil {
		t.Fatalf("Load(%v, %v, %v, %d): %v", gens, m.there, m.told(), last, err)
	}
	check(t, p, m)
	return &pair{t, p, m}
}

// ticked is a task of a priority with a job of 9, that was given so many ticks.
func ticked(prio, ticks int) api.Task {
	return api.Task{Prio: prio, Jobs: []api.Job{{Length: 9}}, Acc: api.Account{Given: ticks, Own: ticks}}
}

// endless is a task of a priority with as much work as there can be.
func endless(prio int) api.Task {
	return api.Task{Prio: prio, Jobs: slices.Repeat([]api.Job{{Length: longest}}, mostJobs)}
}

// busy is a pair with tasks at some slots, free slots of several generations, one that is used up, jobs of all sorts, and the last one gone.
func busy(t *testing.T) *pair {
	t.Helper()
	gens := [mostTasks]int{4, 2, 7, lastGen + 1, lastGen, 1, 9, lastGen, 1, 5, 1, lastGen + 1, 2, 3, 1, 6}
	q := pairOf(t, gens, map[int]api.Task{
		1:  {Prio: 5, Jobs: []api.Job{{Length: 3, Cap: 2, At: 10, Due: 5}, {Length: 4, At: 11}, {Length: 2, Cap: 7, At: 12, Due: 9}}, Acc: api.Account{Given: 20, Own: 20, Done: 4, Cut: 3, Late: 2}},
		2:  {Prio: 0, Acc: api.Account{Given: 3, Own: 3, Done: 1}},
		4:  {Prio: 5, Jobs: []api.Job{{Length: 1, Cap: 1, At: 3, Due: 1}, {Length: 2}}},
		6:  {Prio: mostPrio, Jobs: slices.Repeat([]api.Job{{Length: 2, At: 1, Due: 7}}, mostJobs), Acc: api.Account{Given: mostTicks - 1, Own: mostTicks - 1, Cut: 5}},
		7:  {Prio: 1},
		12: {Prio: 5, Jobs: []api.Job{{Length: 3, At: 2, Due: 6}}, Acc: api.Account{Given: 1, Own: 1}},
		15: {Prio: mostPrio, Jobs: []api.Job{{Length: 5, Cap: 4}}, Acc: api.Account{Given: 6, Own: 6, Cut: 2, Late: 1}},
	}, 3)
	q.m.gone = []api.Handle{numberOf(0, 3), numberOf(3, lastGen), numberOf(1, 1), numberOf(7, lastGen-1), numberOf(11, 1), numberOf(15, 5)}
	return q
}

// starts are pairs of many sorts to begin with.
func starts(t *testing.T) map[string]*pair {
	t.Helper()
	full := made(t)
	for slot := range mostTasks {
		full.pushes(full.creates(slot % 3)[0], api.Job{Length: slot + 1})
	}
	one := made(t)
	one.pushes(one.creates(4)[0], api.Job{Length: 1}, api.Job{Length: 2, Cap: 1})
	idle := made(t)
	idle.creates(3, 2, 2)
	level := made(t)
	for _, h := range level.creates(2, 2, 2, 2) {
		level.pushes(h, api.Job{Length: 40}, api.Job{Length: 3, Due: 20})
	}
	return map[string]*pair{"none": made(t), "one": one, "idle": idle, "full": full, "level": level, "busy": busy(t)}
}

// The calls have the forms that the chapter lists.
var (
	_ func() *Pool                                        = New
	_ func([]int, []bool, []api.Task, int) (*Pool, error) = Load
	_ func(*Pool, int) (api.Handle, error)                = (*Pool).Create
	_ func(*Pool, api.Handle) error                       = (*Pool).Remove
	_ func(*Pool, api.Handle, api.Job, int) error         = (*Pool).Push
	_ func(*Pool, api.Handle) (api.Task, error)           = (*Pool).Of
	_ func(*Pool) []api.Handle                            = (*Pool).List
	_ func(*Pool) bool                                    = (*Pool).Ready
	_ func(*Pool) (api.Handle, bool)                      = (*Pool).Next
	_ func(*Pool, int) (api.Handle, int, int, bool)       = (*Pool).Give
	_ func(*Pool) ([]int, []bool, []api.Task, int)        = (*Pool).Save
	_ func(*Pool) *Pool                                   = (*Pool).Twin
)

// SK1 to SK3: the chapter's example.
func TestExample(t *testing.T) {
	p := New()
	a, errA := p.Create(0)
	b, errB := p.Create(0)
	if a != 3298534883329 || b != 3298535931905 || errA != nil || errB != nil {
		t.Fatalf("Create: %d, %v; %d, %v", a, errA, b, errB)
	}
	for _, h := range []api.Handle{a, b} {
		if err := p.Push(h, api.Job{Length: 2}, 0); err != nil {
			t.Fatalf("Push(%d): %v", h, err)
		}
	}
	for now, want := range []struct {
		h    api.Handle
		what int
	}{{a, task.On}, {b, task.On}, {a, task.Done}, {b, task.Done}} {
		if h, what, late, is := p.Give(now); h != want.h || what != want.what || late != 0 || !is {
			t.Errorf("Give(%d) = %d, %d, %d, %t; want %d, %d", now, h, what, late, is, want.h, want.what)
		}
	}
	if h, what, late, is := p.Give(4); h != 0 || what != 0 || late != 0 || is {
		t.Errorf("Give(4) = %d, %d, %d, %t", h, what, late, is)
	}
	for _, h := range []api.Handle{a, b} {
		if x, err := p.Of(h); !alike(x, api.Task{Acc: api.Account{Given: 2, Own: 2, Done: 1}}) || err != nil {
			t.Errorf("Of(%d) = %v, %v", h, x, err)
		}
	}
}

// SK1, SK4: a new pool has no tasks, and nobody has had a tick.
func TestNew(t *testing.T) {
	gens, taken, tasks, last := New().Save()
	if !slices.Equal(gens, fresh[:]) || !slices.Equal(taken, make([]bool, api.MaxSlack)) || len(tasks) != 0 || last != -1 {
		t.Errorf("Save() = %v, %v, %v, %d", gens, taken, tasks, last)
	}
	p := New()
	h, waits := p.Next()
	if len(p.List()) != 0 || p.Ready() || h != 0 || waits {
		t.Errorf("List, Ready, Next = %v, %t, %d, %t", p.List(), p.Ready(), h, waits)
	}
}

// SK1: priorities from 0 to MaxPrio make a task, others none.
func TestCreate(t *testing.T) {
	for prio, want := range map[int]error{
		-1: api.ErrRange, 0: nil, 1: nil, api.MaxPrio: nil, api.MaxPrio + 1: api.ErrRange,
		math.MinInt: api.ErrRange, math.MaxInt: api.ErrRange, 1 << 32: api.ErrRange, -1 << 32: api.ErrRange, 1<<32 + 3: api.ErrRange,
	} {
		q := made(t)
		h, err := q.create(prio)
		if err != want || err == nil && h != numberOf(0, 1) {
			t.Errorf("Create(%d) = %d, %v; want %v", prio, h, err, want)
		}
		if x, err := q.p.Of(numberOf(0, 1)); want == nil && (!alike(x, api.Task{Prio: prio}) || err != nil) {
			t.Errorf("Create(%d): %v, %v", prio, x, err)
		}
	}
	for name, q := range starts(t) {
		for prio := -3; prio < 40; prio++ {
			q.twin().create(prio)
		}
		for _, prio := range edges {
			if _, err := q.twin().create(prio); !within(prio, 0, mostPrio) && err != api.ErrRange {
				t.Errorf("%s: Create(%d): %v", name, prio, err)
			}
		}
	}
}

// SK1: as many tasks as MaxSlack, and one more; a wrong priority is told ahead of that.
func TestCreateFull(t *testing.T) {
	q := made(t)
	for slot := range api.MaxSlack {
		if h, err := q.create(slot); h != numberOf(slot, 1) || err != nil {
			t.Fatalf("Create %d: %d, %v", slot, h, err)
		}
	}
	for range 3 {
		if h, err := q.create(0); h != 0 || err != api.ErrRoom {
			t.Errorf("Create beyond MaxSlack: %d, %v", h, err)
		}
		for _, prio := range []int{-1, mostPrio + 1, math.MinInt, math.MaxInt} {
			if h, err := q.create(prio); h != 0 || err != api.ErrRange {
				t.Errorf("Create(%d) beyond MaxSlack: %d, %v", prio, h, err)
			}
		}
	}
	for slot := mostTasks - 1; slot >= 0; slot-- {
		q.remove(numberOf(slot, 1))
		if h, err := q.create(2); h != numberOf(slot, 2) || err != nil {
			t.Errorf("Create at slot %d again: %d, %v", slot, h, err)
		}
	}
}

// SK1: of the slots that are free the lowest is given, in whatever order they came free.
func TestCreateLowest(t *testing.T) {
	r := rand.New(rand.NewSource(5))
	sets := []int{0, 1, 1 << 15, 1<<15 | 1, 0xaaaa, 0x5555, 0xff00, 0x00ff, 0xffff}
	for range 250 {
		sets = append(sets, r.Intn(1<<mostTasks))
	}
	for _, set := range sets {
		q := made(t)
		q.creates(slices.Repeat([]int{7}, mostTasks)...)
		for _, slot := range r.Perm(mostTasks) {
			if set>>slot&1 == 1 {
				q.remove(numberOf(slot, 1))
			}
		}
		for slot := range mostTasks {
			if set>>slot&1 == 0 {
				continue
			}
			if h, err := q.create(1); h != numberOf(slot, 2) || err != nil {
				t.Fatalf("%016b: Create = %d, %v; want slot %d", set, h, err, slot)
			}
		}
		if _, err := q.create(1); err != api.ErrRoom {
			t.Fatalf("%016b: Create in a full pool: %v", set, err)
		}
	}
}

// SK1: a slot is given once for each generation; when it is used up, the next one is; when all are, there is no room, though no task is there.
func TestUsedUp(t *testing.T) {
	p, m := New(), modelOf()
	for slot := range mostTasks {
		for gen := 1; gen <= api.MaxGen; gen++ {
			h, err := p.Create(gen % 32)
			want, _ := m.create(gen % 32)
			if h != numberOf(slot, gen) || h != want || err != nil {
				t.Fatalf("Create = %d, %v; want slot %d, generation %d", h, err, slot, gen)
			}
			if err := p.Remove(h); err != nil {
				t.Fatalf("Remove(%d): %v", h, err)
			}
			m.remove(h)
		}
		check(t, p, m)
	}
	m.gone = m.gone[len(m.gone)-2000:]
	q := &pair{t, p, m}
	for _, q := range []*pair{q, q.twin(), q.loaded()} {
		if h, err := q.create(0); h != 0 || err != api.ErrRoom {
			t.Errorf("Create where all is used up: %d, %v", h, err)
		}
		if _, err := q.create(-1); err != api.ErrRange {
			t.Errorf("Create(-1) where all is used up: %v", err)
		}
		q.gives(0, 0)
		q.wrongHandles()
	}
}

// SK1, SK4: the last generation of a slot is given as the others are, one that is used up is passed by; the last one may be in such a slot.
func TestLastGeneration(t *testing.T) {
	gens := fresh
	gens[0], gens[1], gens[2], gens[3] = lastGen+1, lastGen, lastGen+1, lastGen-1
	q := pairOf(t, gens, nil, 2)
	if h := q.creates(3)[0]; h != numberOf(1, lastGen) {
		t.Errorf("Create: %d", h)
	}
	q.pushes(numberOf(1, lastGen), api.Job{Length: 2})
	q.gives(0, numberOf(1, lastGen))
	q.remove(numberOf(1, lastGen))
	q = q.loaded()
	for _, gen := range []int{lastGen - 1, lastGen} {
		if h := q.creates(3)[0]; h != numberOf(3, gen) {
			t.Errorf("Create: %d; want generation %d", h, gen)
		}
		q.remove(numberOf(3, gen))
	}
	if h := q.creates(3)[0]; h != numberOf(4, 1) {
		t.Errorf("Create: %d", h)
	}
	q.loaded().wrongHandles()
}

// wrongHandles holds each call that takes a handle against ErrHandle, for handles of nothing that is there.
func (q *pair) wrongHandles() {
	q.t.Helper()
	for _, h := range q.m.wrong() {
		if q.m.slotOf(h) >= 0 {
			q.t.Fatalf("%d is a task's", h)
		}
		if err := q.p.Remove(h); err != api.ErrHandle {
			q.t.Errorf("Remove(%d): %v", h, err)
		}
		if err := q.p.Push(h, api.Job{Length: 1}, 0); err != api.ErrHandle {
			q.t.Errorf("Push(%d): %v", h, err)
		}
		if x, err := q.p.Of(h); !reflect.DeepEqual(x, api.Task{}) || err != api.ErrHandle {
			q.t.Errorf("Of(%d) = %v, %v", h, x, err)
		}
	}
	check(q.t, q.p, q.m)
}

// SK1: handles of other kinds, of free slots, of other generations, of slots beyond the table, and no handles at all.
func TestWrongHandles(t *testing.T) {
	for _, q := range starts(t) {
		q.wrongHandles()
		for _, h := range q.m.all() {
			q.remove(h)
			q.wrongHandles()
			q.create(3)
			q.wrongHandles()
		}
	}
}

// SK1, SK5: what was removed names nothing again, though its slot is given again, and a pool's handles name nothing in another one.
func TestGoneForEver(t *testing.T) {
	q := made(t)
	gone := []api.Handle{}
	for range 40 {
		h := q.creates(1)[0]
		q.pushes(h, api.Job{Length: 3})
		q.gives(0, h)
		q.remove(h)
		gone = append(gone, h)
	}
	q.creates(1, 2, 3)
	for _, h := range gone {
		if _, err := q.p.Of(h); err != api.ErrHandle {
			t.Errorf("Of(%d): %v", h, err)
		}
	}
	q.wrongHandles()
	q.twin().wrongHandles()
	q.loaded().wrongHandles()
	if _, err := New().Of(q.m.handleAt(0)); err != api.ErrHandle {
		t.Errorf("Of another pool's handle: %v", err)
	}
}

// SK1: Push with each of its errors, with each job at the edges.
func TestPush(t *testing.T) {
	for _, n := range edges {
		for _, m := range edges {
			q := made(t)
			h := q.creates(3)[0]
			q.push(h, api.Job{Length: n, Cap: m, At: n, Due: m}, 0)
			q.push(h, api.Job{Length: 1, Cap: n, At: m, Due: 2}, 1)
			q.push(h, api.Job{Length: 1, At: n, Due: n}, m)
			q.push(h, api.Job{Length: n, Due: m}, mostTicks)
		}
	}
	q := made(t)
	h := q.creates(3)[0]
	for _, c := range []struct {
		job  api.Job
		now  int
		want error
	}{
		{api.Job{Length: 1}, -1, api.ErrArg}, {api.Job{Length: 1}, api.MaxTicks + 1, api.ErrArg},
		{api.Job{Length: 1}, math.MinInt, api.ErrArg}, {api.Job{Length: 1}, math.MaxInt, api.ErrArg},
		{api.Job{}, 0, api.ErrRange}, {api.Job{Length: -1}, 0, api.ErrRange}, {api.Job{Length: api.MaxLength + 1}, 0, api.ErrRange},
		{api.Job{Length: 1, Cap: -1}, 0, api.ErrRange}, {api.Job{Length: 1, Cap: api.MaxLength + 1}, 0, api.ErrRange},
		{api.Job{Length: 1, Due: -1}, 0, api.ErrRange}, {api.Job{Length: 1, Due: api.MaxTicks + 1}, 0, api.ErrRange},
		{api.Job{Length: 1, At: -1}, 0, nil}, {api.Job{Length: 1, At: math.MaxInt}, api.MaxTicks, nil},
		{api.Job{Length: api.MaxLength, Cap: api.MaxLength, Due: api.MaxTicks}, api.MaxTicks, nil},
	} {
		if err := q.push(h, c.job, c.now); err != c.want {
			t.Errorf("Push(%v, %d): %v; want %v", c.job, c.now, err, c.want)
		}
	}
}

// SK1: as many jobs as MaxJobs, and one more; there is room again, when one is done.
func TestPushFull(t *testing.T) {
	q := made(t)
	l := q.creates(3, 3)
	for i := range api.MaxJobs {
		if err := q.push(l[0], api.Job{Length: 1, Cap: i, Due: i}, i); err != nil {
			t.Errorf("Push of job %d: %v", i, err)
		}
	}
	for range 3 {
		if err := q.push(l[0], api.Job{Length: 1}, 9); err != api.ErrFull {
			t.Errorf("Push beyond MaxJobs: %v", err)
		}
	}
	if err := q.push(l[1], api.Job{Length: 1}, 9); err != nil {
		t.Errorf("Push at the other task: %v", err)
	}
	q.gives(20, l[0])
	if err := q.push(l[0], api.Job{Length: 5}, 21); err != nil {
		t.Errorf("Push, when one is done: %v", err)
	}
	if err := q.push(l[0], api.Job{Length: 5}, 21); err != api.ErrFull {
		t.Errorf("Push beyond MaxJobs again: %v", err)
	}
}

// SK1: of several faults that which the rule names first.
func TestPushOrder(t *testing.T) {
	q := made(t)
	l := q.creates(3, 4)
	for range mostJobs {
		q.pushes(l[0], api.Job{Length: 1})
	}
	for _, c := range []struct {
		h    api.Handle
		job  api.Job
		now  int
		want error
	}{
		{numberOf(2, 1), api.Job{Length: 1}, -1, api.ErrHandle}, {0, api.Job{}, 0, api.ErrHandle}, {-1, api.Job{}, mostTicks + 1, api.ErrHandle},
		{l[1], api.Job{}, -1, api.ErrArg}, {l[1], api.Job{Length: 1, Cap: -1}, mostTicks + 1, api.ErrArg},
		{l[0], api.Job{Length: 1}, -1, api.ErrArg}, {l[0], api.Job{}, -1, api.ErrArg}, {l[0], api.Job{Length: 1}, mostTicks + 1, api.ErrArg},
		{l[0], api.Job{}, 0, api.ErrRange}, {l[0], api.Job{Length: 1, Due: -1}, mostTicks, api.ErrRange},
		{l[0], api.Job{Length: 1}, 0, api.ErrFull}, {l[0], api.Job{Length: 1}, mostTicks, api.ErrFull},
	} {
		if err := q.push(c.h, c.job, c.now); err != c.want {
			t.Errorf("Push(%d, %v, %d): %v; want %v", c.h, c.job, c.now, err, c.want)
		}
	}
}

// SK1: a job waits at its task's end, and at no other one's.
func TestPushAtTheEnd(t *testing.T) {
	q := made(t)
	l := q.creates(4, 4, 1)
	for i := range mostJobs {
		q.push(l[i%2], api.Job{Length: i + 1, Cap: 2 * i, At: 99, Due: 3 * i}, 10+i)
	}
	for k := range 2 {
		x, err := q.p.Of(l[k])
		want := []api.Job{}
		for i := k; i < mostJobs; i += 2 {
			want = append(want, api.Job{Length: i + 1, Cap: 2 * i, At: 10 + i, Due: 3 * i})
		}
		if !slices.Equal(x.Jobs, want) || err != nil {
			t.Errorf("Of(%d) = %v, %v; want the jobs %v", l[k], x, err, want)
		}
	}
}

// SK1: what is removed goes with its jobs; what comes to its slot has none of them, nor of its account.
func TestRemove(t *testing.T) {
	q := busy(t)
	for _, slot := range []int{1, 6, 2, 12, 4, 15, 7} {
		h := q.m.handleAt(slot)
		if err := q.remove(h); err != nil {
			t.Errorf("Remove(%d): %v", h, err)
		}
		if err := q.remove(h); err != api.ErrHandle {
			t.Errorf("Remove(%d) again: %v", h, err)
		}
	}
	q.gives(0, 0)
	for _, h := range q.creates(4, 4, 4, 4, 4, 4, 4, 4, 4) {
		if x, err := q.p.Of(h); !alike(x, api.Task{Prio: 4}) || err != nil {
			t.Errorf("Of(%d) = %v, %v", h, x, err)
		}
	}
	q.gives(1, 0)
	q.pushes(q.m.all()[2], api.Job{Length: 1})
	q.gives(2, q.m.all()[2], 0)
}

// SK2: the handles of all tasks by rising slots, whatever their priorities, jobs and generations, and in whatever order they came.
func TestList(t *testing.T) {
	q := busy(t)
	want := []api.Handle{numberOf(1, 2), numberOf(2, 7), numberOf(4, lastGen), numberOf(6, 9), numberOf(7, lastGen), numberOf(12, 2), numberOf(15, 6)}
	if got := q.p.List(); !slices.Equal(got, want) {
		t.Errorf("List() = %v; want %v", got, want)
	}
	q.creates(1, 0)
	want = slices.Concat([]api.Handle{numberOf(0, 4)}, want[:3], []api.Handle{numberOf(5, 1)}, want[3:])
	if got := q.p.List(); !slices.Equal(got, want) {
		t.Errorf("List() = %v; want %v", got, want)
	}
}

// SK2: no task, tasks without a job: nobody is ready, and a tick changes nothing, the last one neither.
func TestNobody(t *testing.T) {
	for _, prios := range [][]int{nil, {0}, {31}, {3, 3, 0}, {0, 1, 2, 3, 4, 5, 6, 7}} {
		q := made(t)
		l := q.creates(prios...)
		for _, now := range edges {
			if h, what, late, is := q.give(now); h != 0 || what != 0 || late != 0 || is {
				t.Errorf("%v: Give(%d) = %d, %d, %d, %t", prios, now, h, what, late, is)
			}
		}
		if h, is := q.p.Next(); h != 0 || is || q.p.Ready() {
			t.Errorf("%v: Next() = %d, %t", prios, h, is)
		}
		for _, h := range l {
			if x, err := q.p.Of(h); x.Acc != (api.Account{}) || err != nil {
				t.Errorf("%v: Of(%d) = %v, %v", prios, h, x, err)
			}
		}
		if _, _, _, last := q.p.Save(); last != -1 {
			t.Errorf("%v: last %d", prios, last)
		}
	}
}

// SK2: of those at which a job waits the least Prio; nobody has had a tick, so of the same one the lowest slot.
func TestNextByPrio(t *testing.T) {
	for _, c := range []struct {
		prios, jobs []int
		want        int
	}{
		{[]int{5}, []int{1}, 0}, {[]int{0}, []int{1}, 0}, {[]int{31}, []int{1}, 0},
		{[]int{5, 3}, []int{1, 1}, 1}, {[]int{3, 5}, []int{1, 1}, 0}, {[]int{5, 3}, []int{1, 0}, 0}, {[]int{3, 5}, []int{0, 1}, 1},
		{[]int{4, 4}, []int{1, 1}, 0}, {[]int{4, 4}, []int{0, 1}, 1}, {[]int{4, 4, 4}, []int{0, 2, 1}, 1}, {[]int{4, 4, 4}, []int{1, 8, 8}, 0},
		{[]int{9, 4, 4, 0}, []int{1, 1, 1, 0}, 1}, {[]int{9, 4, 4, 0}, []int{1, 1, 1, 1}, 3}, {[]int{9, 4, 4, 0}, []int{1, 0, 1, 0}, 2},
		{[]int{31, 31, 30, 31}, []int{1, 1, 1, 1}, 2}, {[]int{7, 6, 5, 4, 3, 2, 1, 0}, []int{1, 1, 1, 1, 1, 1, 1, 1}, 7},
		{[]int{7, 7, 7, 7, 7, 7, 7, 7}, []int{0, 0, 0, 0, 0, 0, 0, 1}, 7}, {[]int{0, 31, 0}, []int{0, 1, 0}, 1}, {[]int{1, 0, 0}, []int{1, 1, 1}, 1},
	} {
		q := made(t)
		l := q.creates(c.prios...)
		for i, n := range c.jobs {
			q.pushes(l[i], slices.Repeat([]api.Job{{Length: 2}}, n)...)
		}
		if h, is := q.p.Next(); h != l[c.want] || !is || !q.p.Ready() {
			t.Errorf("%v, %v: Next() = %d, %t; want that of place %d", c.prios, c.jobs, h, is, c.want)
		}
		q.gives(0, l[c.want])
	}
}

// SK2: of the same priority the first one behind the last one's slot; the last one itself comes last, whether it is there or not.
func TestNextBehindTheLast(t *testing.T) {
	for _, c := range []struct {
		slots      []int
		last, want int
	}{
		{[]int{0, 1, 2}, -1, 0}, {[]int{0, 1, 2}, 0, 1}, {[]int{0, 1, 2}, 1, 2}, {[]int{0, 1, 2}, 2, 0}, {[]int{0, 1, 2}, 9, 0}, {[]int{0, 1, 2}, 15, 0},
		{[]int{3, 8, 15}, -1, 3}, {[]int{3, 8, 15}, 0, 3}, {[]int{3, 8, 15}, 2, 3}, {[]int{3, 8, 15}, 3, 8}, {[]int{3, 8, 15}, 4, 8}, {[]int{3, 8, 15}, 7, 8},
		{[]int{3, 8, 15}, 8, 15}, {[]int{3, 8, 15}, 14, 15}, {[]int{3, 8, 15}, 15, 3}, {[]int{0, 15}, 15, 0}, {[]int{0, 15}, 0, 15}, {[]int{14, 15}, 15, 14},
		{[]int{5}, -1, 5}, {[]int{5}, 4, 5}, {[]int{5}, 5, 5}, {[]int{5}, 6, 5}, {[]int{0}, 0, 0}, {[]int{0}, 15, 0}, {[]int{15}, 15, 15}, {[]int{15}, 0, 15},
	} {
		for _, prio := range []int{0, 1, 17, mostPrio} {
			tasks := map[int]api.Task{}
			for _, slot := range c.slots {
				tasks[slot] = ticked(prio, 2)
			}
			gens := [mostTasks]int{2, 2, 2, 2, 2, 2, 2, 2, 2, 2, 2, 2, 2, 2, 2, 2}
			q := pairOf(t, gens, tasks, c.last)
			if h, is := q.p.Next(); h != numberOf(c.want, 2) || !is {
				t.Errorf("%v of %d, last %d: Next() = %d, %t; want slot %d", c.slots, prio, c.last, h, is, c.want)
			}
			q.gives(0, numberOf(c.want, 2))
		}
	}
}

// SK2: the last one has the next tick too, where it alone is ready, or goes ahead of all others by its Prio.
func TestTheLastAgain(t *testing.T) {
	for _, prio := range []int{0, 5, mostPrio} {
		q := made(t)
		l := q.creates(prio, prio, prio)
		q.pushes(l[1], api.Job{Length: 4})
		q.gives(0, l[1], l[1], l[1])
		q.pushes(l[0], api.Job{Length: 1})
		q.gives(3, l[0], l[1], 0)
	}
	q := made(t)
	l := q.creates(3, 2, 3)
	for _, h := range l {
		q.pushes(h, api.Job{Length: 3})
	}
	q.gives(0, l[1], l[1], l[1], l[2], l[0], l[2], l[0], l[2], l[0], 0)
}

// SK2, SK5: a task with a lesser Prio that comes later, or whose job does, goes ahead from there on, in the midst of another one's job; behind it turns go on from its slot.
func TestLesserComesLater(t *testing.T) {
	q := made(t)
	slow := q.creates(9, 9, 9)
	for _, h := range slow {
		q.pushes(h, api.Job{Length: 3})
	}
	q.gives(0, slow[0], slow[1])
	fast := q.creates(2)[0]
	q.gives(2, slow[2])
	q.pushes(fast, api.Job{Length: 2})
	q.gives(3, fast)
	faster := q.creates(1)[0]
	q.pushes(faster, api.Job{Length: 3, Cap: 1})
	q.gives(4, faster, fast, slow[0], slow[1])
	q.pushes(fast, api.Job{Length: 1})
	q.gives(8, fast, slow[0], slow[1], slow[2], slow[2], 0)
}

// SK2: the last one removed: turns go on from its slot, be it free, or given anew, in which case that one comes last.
func TestTheLastIsRemoved(t *testing.T) {
	for slot := range 4 {
		q := made(t)
		l := q.creates(3, 3, 3, 3)
		for _, h := range l {
			q.pushes(h, api.Job{Length: 9})
		}
		q.gives(0, l[:slot+1]...)
		q.remove(l[slot])
		anew := q.twin()
		others := slices.Concat(l[slot+1:], l[:slot])
		q.gives(9, slices.Concat(others, others, others)...)

		again := anew.creates(3)[0]
		if again != numberOf(slot, 2) {
			t.Fatalf("Create = %d; want slot %d", again, slot)
		}
		idle := anew.twin()
		idle.gives(9, slices.Concat(others, others)...)
		anew.pushes(again, api.Job{Length: 9})
		anew.gives(9, slices.Concat(others, []api.Handle{again}, others, []api.Handle{again})...)
	}
}

// SK2: the last one removed, and no other ready; it is the last one still, when others come.
func TestTheLastAlone(t *testing.T) {
	q := made(t)
	h := q.creates(3)[0]
	q.pushes(h, api.Job{Length: 9})
	q.gives(0, h)
	q.remove(h)
	q.gives(1, 0)
	if _, _, _, last := q.p.Save(); last != 0 {
		t.Errorf("last %d", last)
	}
	l := q.creates(3, 3)
	for _, h := range l {
		q.pushes(h, api.Job{Length: 2})
	}
	q.loaded().gives(2, l[1], l[0], l[1], l[0], 0)
	q.gives(2, l[1], l[0], l[1], l[0], 0)
}

// SK2: each small pool of three tasks of two priorities, each with no job to two of a tick, with each last one: who has the ticks, one by one.
func TestEachSmallPool(t *testing.T) {
	gens := [mostTasks]int{2, 2, 2, 2, 2, 2, 2, 2, 2, 2, 2, 2, 2, 2, 2, 2}
	for _, slots := range [][3]int{{0, 1, 2}, {1, 7, 15}, {0, 8, 14}} {
		for set := range 6 * 6 * 6 {
			tasks := map[int]api.Task{}
			for i, rest := 0, set; i < 3; i, rest = i+1, rest/6 {
				tasks[slots[i]] = api.Task{Prio: rest % 2, Jobs: slices.Repeat([]api.Job{{Length: 1}}, rest%6/2)}
			}
			for last := -1; last < mostTasks; last++ {
				q := pairOf(t, gens, tasks, last)
				for now := range 7 {
					q.give(now)
				}
			}
		}
	}
}

// given is the pool of one task with one job, that was given ticks, another one being the last one: what a Give answers.
func given(t *testing.T, ticks int, job api.Job, now int) (api.Handle, int, int, bool) {
	t.Helper()
	x := api.Task{Prio: 2, Jobs: []api.Job{job}, Acc: api.Account{Given: ticks, Own: ticks}}
	q := pairOf(t, fresh, map[int]api.Task{3: x, 9: {}}, 9)
	return q.give(now)
}

// SK3: Give at the edges of time, and of a task that was given all ticks there are.
func TestGiveEdges(t *testing.T) {
	for now, want := range map[int]bool{
		-1: false, 0: true, 1: true, api.MaxTicks - 1: true, api.MaxTicks: false, api.MaxTicks + 1: false,
		math.MinInt: false, math.MaxInt: false, 1 << 32: false, -1 << 32: false,
	} {
		for _, ticks := range []int{0, 1, 77, mostTicks - 1} {
			h, what, late, is := given(t, ticks, api.Job{Length: 1, Due: mostTicks}, now)
			if is != want || (h == numberOf(3, 1)) != want || (what == isDone) != want || late != 0 {
				t.Errorf("Give(%d) behind %d ticks = %d, %d, %d, %t; want %t", now, ticks, h, what, late, is, want)
			}
		}
		if h, what, late, is := given(t, mostTicks, api.Job{Length: 1}, now); h != 0 || what != 0 || late != 0 || is {
			t.Errorf("Give(%d) behind all ticks = %d, %d, %d, %t", now, h, what, late, is)
		}
	}
	for _, now := range edges {
		given(t, 0, api.Job{Length: 2, At: 5, Due: 3}, now)
		given(t, 0, api.Job{Length: 1, At: mostTicks, Due: mostTicks}, now)
		given(t, mostTicks, api.Job{Length: 2}, now)
	}
}

// SK3: where the next one can be given no more, nobody has the tick, whoever else is ready, and the last one stays; behind its end others have it.
func TestGiveNobodyElse(t *testing.T) {
	for _, slot := range []int{0, 4, 7, 15} {
		q := pairOf(t, fresh, map[int]api.Task{slot: ticked(3, mostTicks), 2: ticked(4, 9), 5: ticked(4, 5)}, 2)
		full := numberOf(slot, 1)
		q.gives(0, 0, 0, 0)
		if h, is := q.p.Next(); h != full || !is {
			t.Errorf("Next() = %d, %t; want %d", h, is, full)
		}
		if _, _, _, last := q.p.Save(); last != 2 {
			t.Errorf("last %d", last)
		}
		q.remove(full)
		q.gives(3, numberOf(5, 1), numberOf(2, 1), numberOf(5, 1))
	}
	q := pairOf(t, fresh, map[int]api.Task{1: ticked(3, mostTicks-1), 2: ticked(3, 0)}, -1)
	q.gives(0, numberOf(1, 1), numberOf(2, 1), 0, 0)
	if _, _, _, last := q.p.Save(); last != 2 {
		t.Errorf("last %d", last)
	}
}

// SK3: a tick that is no time changes nothing, the last one neither, in pools of all sorts.
func TestGiveAtNoTime(t *testing.T) {
	for name, q := range starts(t) {
		for range 4 {
			for _, now := range []int{-1, mostTicks, mostTicks + 1, math.MinInt, math.MaxInt} {
				if h, what, late, is := q.give(now); h != 0 || what != 0 || late != 0 || is {
					t.Errorf("%s: Give(%d) = %d, %d, %d, %t", name, now, h, what, late, is)
				}
			}
			q.give(mostTicks - 1)
		}
	}
}

// SK3: what became of a job, and how late: by none, by one, by many.
func TestGiveTellsTheJob(t *testing.T) {
	for _, c := range []struct {
		job        api.Job
		now        int
		what, late int
	}{
		{api.Job{Length: 2}, 5, task.On, 0}, {api.Job{Length: 1}, 5, task.Done, 0}, {api.Job{Length: 2, Cap: 1}, 5, task.Cut, 0},
		{api.Job{Length: 1, Cap: 1}, 5, task.Done, 0}, {api.Job{Length: 2, Cap: 2}, 5, task.On, 0}, {api.Job{Length: 1, Cap: 2}, 5, task.Done, 0},
		{api.Job{Length: 1, At: 3, Due: 4}, 5, task.Done, 0}, {api.Job{Length: 1, At: 3, Due: 4}, 6, task.Done, 0},
		{api.Job{Length: 1, At: 3, Due: 4}, 7, task.Done, 1}, {api.Job{Length: 1, At: 3, Due: 4}, 8, task.Done, 2},
		{api.Job{Length: 9, Cap: 1, At: 3, Due: 4}, 6, task.Cut, 0}, {api.Job{Length: 9, Cap: 1, At: 3, Due: 4}, 7, task.Cut, 1},
		{api.Job{Length: 9, Cap: 1, At: 3, Due: 4}, 107, task.Cut, 101}, {api.Job{Length: 2, At: 3, Due: 4}, 107, task.On, 0},
		{api.Job{Length: 1, At: 3}, 107, task.Done, 0}, {api.Job{Length: 1, Due: 1}, mostTicks - 1, task.Done, mostTicks - 1},
		{api.Job{Length: 1, Due: 1}, 0, task.Done, 0}, {api.Job{Length: 1, At: mostTicks, Due: mostTicks}, 0, task.Done, 0},
	} {
		if h, what, late, is := given(t, 0, c.job, c.now); h != numberOf(3, 1) || what != c.what || late != c.late || !is {
			t.Errorf("%v: Give(%d) = %d, %d, %d, %t; want %d, %d", c.job, c.now, h, what, late, is, c.what, c.late)
		}
	}
	if task.On != goesOn || task.Done != isDone || task.Cut != isCut {
		t.Errorf("On, Done, Cut = %d, %d, %d", task.On, task.Done, task.Cut)
	}
}

// SK3: each small job at each small time.
func TestGiveEachSmallJob(t *testing.T) {
	for set := range 4 * 5 * 4 * 4 {
		job := api.Job{Length: set%4 + 1, Cap: set / 4 % 5, At: set / 20 % 4, Due: set / 80}
		for now := range 8 {
			q := pairOf(t, fresh, map[int]api.Task{0: {Jobs: []api.Job{job}}}, -1)
			for i := range 5 {
				q.give(now + i)
			}
		}
	}
}

// SK3: an account tells what its task was given, and what became of its jobs.
func TestAccount(t *testing.T) {
	q := made(t)
	h := q.creates(2)[0]
	q.pushes(h, api.Job{Length: 2}, api.Job{Length: 5, Cap: 3, Due: 4}, api.Job{Length: 1, Due: 6}, api.Job{Length: 1, Due: 6}, api.Job{Length: 7})
	q.gives(0, h, h, h, h, h, h, h, h, h)
	want := api.Task{Prio: 2, Jobs: []api.Job{{Length: 5}}, Acc: api.Account{Given: 9, Own: 9, Done: 3, Cut: 1, Late: 2}}
	if x, err := q.p.Of(h); !alike(x, want) || err != nil {
		t.Errorf("Of(%d) = %v, %v; want %v", h, x, err, want)
	}
}

// SK5: among tasks of one priority that are always ready each has one of any so many ticks on end as they are, whoever else of a greater Prio is ready, in whatever slots, from whatever last one on.
func TestRoundRobin(t *testing.T) {
	r := rand.New(rand.NewSource(11))
	for many := 1; many <= mostTasks; many++ {
		for range 6 {
			gens := [mostTasks]int{2, 2, 2, 2, 2, 2, 2, 2, 2, 2, 2, 2, 2, 2, 2, 2}
			prio := r.Intn(mostPrio)
			tasks := map[int]api.Task{}
			slots := r.Perm(mostTasks)
			for i, slot := range slots {
				if i < many {
					tasks[slot] = endless(prio)
				} else if i%2 == 0 {
					tasks[slot] = endless(prio + 1 + r.Intn(mostPrio-prio))
				}
			}
			q := pairOf(t, gens, tasks, r.Intn(mostTasks+1)-1)
			row := []int{}
			for now := range 5*many + 3 {
				h, _, _, _ := q.give(now)
				row = append(row, q.m.slotOf(h))
			}
			for at := 0; at+many <= len(row); at++ {
				got := slices.Sorted(slices.Values(row[at : at+many]))
				if want := slices.Sorted(slices.Values(slots[:many])); !slices.Equal(got, want) {
					t.Fatalf("slots %v: the ticks from %d on went to %v", want, at, row[at:at+many])
				}
			}
		}
	}
}

// SK5: turns hold in the midst of jobs that end and jobs that come, and where tasks are pushed to, removed and created anew, as long as those that are ready stay so.
func TestManyTicks(t *testing.T) {
	q := made(t)
	l := q.creates(4, 4, 4, 4, 4)
	count := map[api.Handle]int{}
	for now := range 1000 {
		for i, h := range l {
			if x, _ := q.p.Of(h); len(x.Jobs) < 3 {
				q.push(h, api.Job{Length: 1 + i, Cap: i, Due: 9}, now)
			}
		}
		h, _, _, is := q.give(now)
		if !is || h != l[now%len(l)] {
			t.Fatalf("Give(%d): %d, %t", now, h, is)
		}
		count[h]++
		if now%97 == 0 {
			q = q.loaded()
		}
	}
	for _, h := range l {
		if x, _ := q.p.Of(h); count[h] != 200 || x.Acc.Given != 200 {
			t.Errorf("%d had %d ticks; %v", h, count[h], x.Acc)
		}
	}
}

// SK5: nobody is passed by, by the pool's own words alone: who has a tick has a job, and no other task that has one has a lesser Prio.
func TestNobodyIsPassedBy(t *testing.T) {
	for seed := range 40 {
		r := rand.New(rand.NewSource(int64(seed)))
		q := made(t)
		used, ready := 0, 0
		for now := range 150 {
			q.step(r)
			before := map[api.Handle]api.Task{}
			for _, h := range q.p.List() {
				before[h], _ = q.p.Of(h)
			}
			h, _, _, is := q.give(now)
			waits := false
			for other, x := range before {
				waits = waits || len(x.Jobs) > 0
				if is && len(x.Jobs) > 0 && x.Prio < before[h].Prio {
					t.Fatalf("%d was passed by for %d: %v", other, h, before)
				}
			}
			if is && len(before[h].Jobs) == 0 || is != waits {
				t.Fatalf("Give(%d): %d, %t of %v", now, h, is, before)
			}
			if is {
				used++
			}
			if waits {
				ready++
			}
		}
		if used != ready || used == 0 {
			t.Errorf("%d ticks were used; %d were given while a task was ready", used, ready)
		}
	}
}

// spoilJobs changes a list of jobs, its spare room too.
func spoilJobs(l []api.Job) {
	for i := range l[:cap(l)] {
		l[:cap(l)][i] = api.Job{Length: -1, Cap: -2, At: -3, Due: -4}
	}
}

// spoilSaved changes what Save says, spare room too.
func spoilSaved(gens []int, taken []bool, tasks []api.Task, _ int) {
	for i := range gens[:cap(gens)] {
		gens[:cap(gens)][i] = -9
	}
	for i, is := range taken[:cap(taken)] {
		taken[:cap(taken)][i] = !is
	}
	for i, x := range tasks[:cap(tasks)] {
		spoilJobs(x.Jobs)
		tasks[:cap(tasks)][i] = api.Task{Prio: -5, Jobs: []api.Job{{}}}
	}
}

// SK1, SK2, SK4: what Of, List and Save answer can be changed by who called, with nothing else changed.
func TestAnswersAreNew(t *testing.T) {
	for _, q := range starts(t) {
		for _, h := range q.m.all() {
			other, _ := q.p.Of(h)
			was := copied(other)
			x, _ := q.p.Of(h)
			spoilJobs(x.Jobs)
			_ = append(x.Jobs, fence)
			check(t, q.p, q.m)
			if !alike(other, was) {
				t.Fatalf("an answer of Of changed with another one: %v to %v", was, other)
			}
		}
		other := q.p.List()
		all := q.p.List()
		for i := range all[:cap(all)] {
			all[:cap(all)][i] = -1
		}
		check(t, q.p, q.m)
		if !slices.Equal(other, q.m.all()) {
			t.Fatalf("an answer of List changed with another one: %v", other)
		}
		gens, taken, tasks, last := q.p.Save()
		spoilSaved(q.p.Save())
		check(t, q.p, q.m)
		if !slices.Equal(gens, q.m.gens[:]) || !slices.Equal(taken, q.m.there[:]) || !slices.EqualFunc(tasks, q.m.told(), alike) || last != q.m.last {
			t.Fatalf("an answer of Save changed with another one: %v, %v, %v", gens, taken, tasks)
		}
	}
}

// SK1, SK2, SK4: lists that were answered stay as they are, whatever is done to the pool.
func TestAnswersStay(t *testing.T) {
	for _, q := range starts(t) {
		was := q.m.twin()
		gens, taken, tasks, _ := q.p.Save()
		all := q.p.List()
		told := []api.Task{}
		for _, h := range all {
			x, _ := q.p.Of(h)
			told = append(told, x)
		}
		for now := range 12 {
			q.give(now)
		}
		q.create(0)
		for _, h := range all {
			q.push(h, api.Job{Length: 2}, 50)
			q.remove(h)
			q.create(1)
		}
		if !slices.Equal(gens, was.gens[:]) || !slices.Equal(taken, was.there[:]) || !slices.EqualFunc(tasks, was.told(), alike) {
			t.Errorf("Save's answer became %v, %v, %v", gens, taken, tasks)
		}
		if !slices.Equal(all, was.all()) || !slices.EqualFunc(told, was.told(), alike) {
			t.Errorf("List's and Of's answers became %v, %v", all, told)
		}
	}
}

// Rule 3: no two lists of one answer share any, spare room too: of Save's tasks each has jobs of its own, and so has each task that is loaded.
func TestListsOfOneAnswer(t *testing.T) {
	jobs := []api.Job{{Length: 3}, {Length: 4}, {Length: 5}}
	tasks := map[int]api.Task{0: {Prio: 1, Jobs: jobs[:2]}, 1: {Prio: 1, Jobs: jobs[:2]}, 13: {Prio: 1, Jobs: jobs[1:]}}
	m := modelOf()
	handed := []api.Task{}
	for _, slot := range []int{0, 1, 13} {
		m.there[slot], m.tasks[slot] = true, copied(tasks[slot])
		handed = append(handed, tasks[slot])
	}
	p, err := Load(slices.Clone(fresh[:]), slices.Clone(m.there[:]), handed, -1)
	if err != nil {
		t.Fatal(err)
	}
	for place := range 3 {
		_, _, told, _ := p.Save()
		was := []api.Task{copied(told[0]), copied(told[1]), copied(told[2])}
		spoilJobs(told[place].Jobs)
		_ = append(told[place].Jobs, fence, fence, fence)
		for i, x := range told {
			if i != place && !alike(x, was[i]) {
				t.Errorf("task %d changed with task %d: %v to %v", i, place, was[i], x)
			}
		}
	}
	check(t, p, m)
	q := &pair{t, p, m}
	q.push(numberOf(0, 1), api.Job{Length: 9}, 3)
	q.push(numberOf(1, 1), api.Job{Length: 8}, 3)
	for now := range 40 {
		q.give(now)
	}
}

// stir does a row of calls by chance to a pair.
func (q *pair) stir(r *rand.Rand, many int) {
	q.t.Helper()
	for range many {
		q.step(r)
	}
}

// step does a call by chance to a pair, mostly one that succeeds.
func (q *pair) step(r *rand.Rand) {
	q.t.Helper()
	switch n := r.Intn(20); {
	case n < 3:
		q.create(number(r, r.Intn(4)))
	case n < 4:
		q.remove(q.some(r))
	case n < 10:
		q.push(q.some(r), api.Job{Length: number(r, 1+r.Intn(4)), Cap: number(r, r.Intn(4)), At: number(r, r.Intn(9)), Due: number(r, r.Intn(9))}, number(r, r.Intn(20)))
	default:
		q.give(number(r, r.Intn(30)))
	}
}

// number is mostly a number that was chosen, sometimes one at the edges.
func number(r *rand.Rand, n int) int {
	if r.Intn(25) == 0 {
		return edges[r.Intn(len(edges))]
	}
	return n
}

// some is mostly the handle of a task that is there, sometimes one of nothing.
func (q *pair) some(r *rand.Rand) api.Handle {
	l := q.m.all()
	if len(l) == 0 || r.Intn(12) == 0 {
		l = q.m.wrong()
	}
	return l[r.Intn(len(l))]
}

// SK4: a twin, a twin of that, and the pool that they came from are each worked on apart.
func TestTwin(t *testing.T) {
	for name, q := range starts(t) {
		r := rand.New(rand.NewSource(int64(len(name))))
		for range 30 {
			a := q.twin()
			b := a.twin()
			l := []*pair{q, a, b}
			for _, x := range l {
				x.stir(r, 5)
				for _, other := range l {
					check(t, other.p, other.m)
				}
			}
			q = l[r.Intn(3)]
		}
	}
}

// SK4: a twin stays as it is when the pool is emptied, and the other way round.
func TestTwinStays(t *testing.T) {
	for _, swapped := range []bool{false, true} {
		q := busy(t)
		other := q.twin()
		if swapped {
			q, other = other, q
		}
		for _, h := range q.m.all() {
			q.remove(h)
		}
		q.creates(1, 2, 3)
		check(t, other.p, other.m)
		for now := range 20 {
			other.give(now)
		}
		other.creates(9)
		check(t, q.p, q.m)
	}
}

// SK4, SK5: Load of what Save says, and a twin, go on alike, at every step of rows of calls.
func TestLoadOfSave(t *testing.T) {
	for name, q := range starts(t) {
		q.loaded()
		for seed := range 8 {
			r := rand.New(rand.NewSource(int64(seed*100 + len(name))))
			x := q.twin()
			for range 60 {
				x.step(r)
				same, twin := x.loaded(), x.twin()
				seed := r.Int63()
				for _, y := range []*pair{x, same, twin} {
					y.stir(rand.New(rand.NewSource(seed)), 3)
				}
				check(t, x.p, same.m)
				check(t, same.p, twin.m)
				check(t, twin.p, x.m)
			}
		}
	}
}

// fencedSave is what a model's pool saves, each list with spare room in which something stands.
func fencedSave(m *model) ([]int, []bool, []api.Task) {
	gens := append(slices.Clone(m.gens[:]), -7, -7)[:mostTasks]
	taken := append(slices.Clone(m.there[:]), true, true)[:mostTasks]
	tasks := append(m.told(), api.Task{Prio: -7}, api.Task{Prio: -7})
	for i, x := range tasks {
		tasks[i].Jobs = append(slices.Clone(x.Jobs), fence, fence)[:len(x.Jobs)]
	}
	return gens, taken, tasks[:len(tasks)-2]
}

// checkFenced tells whether what was handed to Load is what it was, spare room too.
func checkFenced(t *testing.T, m *model, gens []int, taken []bool, tasks []api.Task) {
	t.Helper()
	wantGens, wantTaken, wantTasks := fencedSave(m)
	n := len(tasks)
	if !slices.Equal(gens[:mostTasks+2], wantGens[:mostTasks+2]) || !slices.Equal(taken[:mostTasks+2], wantTaken[:mostTasks+2]) || n != len(wantTasks) {
		t.Fatalf("Load's arguments became %v, %v, %v", gens[:mostTasks+2], taken[:mostTasks+2], tasks)
	}
	for i, x := range tasks[:n+2] {
		many, want := len(x.Jobs), wantTasks[:n+2][i]
		if !alike(x, want) || !slices.Equal(x.Jobs[:many+2], want.Jobs[:many+2]) {
			t.Fatalf("Load's task %d became %v; want %v", i, x, want)
		}
	}
}

// SK4: what was handed to Load is not changed by it, nor by what is done to the pool, and may be changed afterwards.
func TestLoadKeepsNothing(t *testing.T) {
	for name, q := range starts(t) {
		for _, spoilt := range []bool{false, true} {
			gens, taken, tasks := fencedSave(q.m)
			p, err := Load(gens, taken, tasks, q.m.last)
			if err != nil {
				t.Fatalf("%s: Load: %v", name, err)
			}
			checkFenced(t, q.m, gens, taken, tasks)
			if spoilt {
				spoilSaved(gens, taken, tasks, 0)
			}
			x := &pair{t, p, q.m.twin()}
			check(t, x.p, x.m)
			x.stir(rand.New(rand.NewSource(7)), 60)
			if !spoilt {
				checkFenced(t, q.m, gens, taken, tasks)
			}
		}
	}
}

// refused holds Load of what makes no pool against an error.
func refused(t *testing.T, name string, want error, gens []int, taken []bool, tasks []api.Task, last int) {
	t.Helper()
	if p, err := Load(gens, taken, tasks, last); p != nil || err != want {
		t.Errorf("%s: Load(%v, %v, %v, %d) = %v, %v; want %v", name, gens, taken, tasks, last, p, err, want)
	}
}

// SK4: too few and too many generations, and none at all.
func TestLoadOfWrongGenerations(t *testing.T) {
	refused(t, "nil", api.ErrArg, nil, nil, nil, -1)
	refused(t, "nil, last 0", api.ErrArg, nil, nil, nil, 0)
	refused(t, "empty", api.ErrArg, []int{}, []bool{}, []api.Task{}, -1)
	for _, many := range []int{0, 1, 8, 15, 17, 32, 4096, 4097, 5000} {
		gens, taken := slices.Repeat([]int{1}, many), make([]bool, many)
		refused(t, "as many flags", api.ErrArg, gens, taken, nil, -1)
		refused(t, "MaxSlack flags", api.ErrArg, gens, make([]bool, mostTasks), nil, -1)
		refused(t, "no last one", api.ErrArg, gens, taken, nil, -2)
		if many > 0 {
			taken[many-1] = true
			refused(t, "as many flags, the last one's task", api.ErrArg, gens, taken, []api.Task{{}}, -1)
			refused(t, "a task that may not be", api.ErrArg, gens, taken, []api.Task{{Prio: -1}}, many-1)
		}
	}
}

// SK4: too few and too many flags and tasks, and none at all.
func TestLoadOfWrongNumbers(t *testing.T) {
	for _, many := range []int{0, 1, 8, 15, 17, 32, 5000} {
		refused(t, "another number of flags", api.ErrState, fresh[:], make([]bool, many), nil, -1)
	}
	refused(t, "nil flags", api.ErrState, fresh[:], nil, nil, -1)
	refused(t, "nil flags, last in no slot of them", api.ErrState, fresh[:], nil, nil, 15)
	r := rand.New(rand.NewSource(2))
	sets := []int{0, 1, 1 << 15, 1<<15 | 1, 0xaaaa, 0x5555, 0xff00, 0x00ff, 0xffff}
	for range 300 {
		sets = append(sets, r.Intn(1<<mostTasks))
	}
	for _, set := range sets {
		taken := []bool{}
		many := 0
		for slot := range mostTasks {
			taken = append(taken, set>>slot&1 == 1)
			many += set >> slot & 1
		}
		for n := range mostTasks + 3 {
			if n != many {
				refused(t, "another number of tasks", api.ErrState, fresh[:], taken, make([]api.Task, n), -1)
			} else if p, err := Load(fresh[:], taken, make([]api.Task, n), -1); p == nil || err != nil {
				t.Errorf("Load(.., %v, %d tasks): %v", taken, n, err)
			}
		}
		refused(t, "very many tasks", api.ErrState, fresh[:], taken, make([]api.Task, 5000), -1)
	}
}

// SK4: each slot's generation: of a taken one from 1 to MaxGen, of a free one to MaxGen + 1.
func TestLoadOfGenerations(t *testing.T) {
	for _, gen := range append([]int{lastGen - 1, lastGen, lastGen + 1, lastGen + 2, 1 << 20}, edges...) {
		for slot := range mostTasks {
			gens := fresh
			gens[slot] = gen
			if within(gen, 1, lastGen+1) {
				pairOf(t, gens, nil, -1).create(3)
			} else {
				refused(t, "a free slot", api.ErrState, gens[:], make([]bool, mostTasks), nil, -1)
				refused(t, "a free slot, the last one's", api.ErrState, gens[:], make([]bool, mostTasks), nil, slot)
			}
			if within(gen, 1, lastGen) {
				pairOf(t, gens, map[int]api.Task{slot: ticked(1, 2)}, slot).give(3)
				continue
			}
			taken := make([]bool, mostTasks)
			taken[slot] = true
			refused(t, "a taken slot", api.ErrState, gens[:], taken, []api.Task{ticked(1, 2)}, -1)
			refused(t, "a taken slot, the last one's", api.ErrState, gens[:], taken, []api.Task{ticked(1, 2)}, slot)
		}
	}
}

// SK4: the last one from -1 to MaxSlack - 1: its slot is taken, or was given before.
func TestLoadOfLast(t *testing.T) {
	for _, last := range append([]int{-2, -1, 0, 15, 16, 17, -16, 32, 65535}, edges...) {
		for gen := 1; gen <= 3; gen++ {
			gens := [mostTasks]int{}
			for slot := range gens {
				gens[slot] = gen
			}
			all := make(map[int]api.Task)
			for slot := range mostTasks {
				all[slot] = ticked(1, 0)
			}
			free, taken := make([]bool, mostTasks), slices.Repeat([]bool{true}, mostTasks)
			if !within(last, -1, mostTasks-1) {
				refused(t, "free slots", api.ErrArg, gens[:], free, nil, last)
				refused(t, "taken slots", api.ErrArg, gens[:], taken, slices.Repeat([]api.Task{{}}, mostTasks), last)
				continue
			}
			pairOf(t, gens, all, last).give(5)
			if gen == 1 && last != -1 {
				refused(t, "slots that were never given", api.ErrState, gens[:], free, nil, last)
			} else {
				pairOf(t, gens, nil, last).create(5)
			}
		}
	}
}

// SK4: the last one's own slot counts, not those beside it.
func TestLoadOfLastSlot(t *testing.T) {
	for slot := range mostTasks {
		gens := [mostTasks]int{2, 2, 2, 2, 2, 2, 2, 2, 2, 2, 2, 2, 2, 2, 2, 2}
		gens[slot] = 1
		taken := make([]bool, mostTasks)
		for last := -1; last < mostTasks; last++ {
			if last == slot {
				refused(t, "never given", api.ErrState, gens[:], taken, nil, last)
			} else {
				pairOf(t, gens, nil, last)
			}
			pairOf(t, gens, map[int]api.Task{slot: {}}, last)
		}
		for slot := range gens {
			gens[slot] = 3 - gens[slot]
		}
		pairOf(t, gens, nil, slot)
	}
	gens := fresh
	gens[7] = lastGen + 1
	pairOf(t, gens, nil, 7)
	gens[7] = lastGen
	pairOf(t, gens, map[int]api.Task{7: ticked(3, 1)}, 7).gives(0, numberOf(7, lastGen))
}

// wrongs are changes, by names, that make a task that may be one that may not.
func wrongs() map[string]func(*api.Task) {
	l := map[string]func(*api.Task){
		"prio -1":       func(x *api.Task) { x.Prio = -1 },
		"prio 32":       func(x *api.Task) { x.Prio = mostPrio + 1 },
		"more own":      func(x *api.Task) { x.Acc.Own++ },
		"less own":      func(x *api.Task) { x.Acc.Own-- },
		"lent":          func(x *api.Task) { x.Acc.Lent = 1 },
		"lent below":    func(x *api.Task) { x.Acc.Lent = -1 },
		"given below":   func(x *api.Task) { x.Acc = api.Account{Given: -1, Own: -1} },
		"given beyond":  func(x *api.Task) { x.Acc = api.Account{Given: mostTicks + 1, Own: mostTicks + 1} },
		"done below":    func(x *api.Task) { x.Acc.Done = -1 },
		"cut below":     func(x *api.Task) { x.Acc.Cut = -1 },
		"late below":    func(x *api.Task) { x.Acc.Late = -1 },
		"done beyond":   func(x *api.Task) { x.Acc.Done = x.Acc.Given - x.Acc.Cut + 1 },
		"cut beyond":    func(x *api.Task) { x.Acc.Cut = x.Acc.Given - x.Acc.Done + 1 },
		"late beyond":   func(x *api.Task) { x.Acc.Late = x.Acc.Done + x.Acc.Cut + 1 },
		"greatest":      func(x *api.Task) { x.Acc.Done, x.Acc.Cut, x.Acc.Late = math.MaxInt, math.MaxInt, math.MaxInt },
		"too many jobs": func(x *api.Task) { x.Jobs = slices.Repeat([]api.Job{{Length: 1}}, mostJobs+1) },
	}
	for i, job := range []api.Job{
		{}, {Length: -1}, {Length: longest + 1}, {Length: 1, Cap: -1}, {Length: 1, Cap: longest + 1}, {Length: 1, At: -1}, {Length: 1, At: mostTicks + 1},
		{Length: 1, Due: -1}, {Length: 1, Due: mostTicks + 1}, {Length: math.MinInt}, {Length: math.MaxInt, Cap: math.MaxInt, At: math.MaxInt, Due: math.MaxInt},
	} {
		l[fmt.Sprintf("job %d first", i)] = func(x *api.Task) { x.Jobs = append([]api.Job{job}, x.Jobs...) }
		l[fmt.Sprintf("job %d last", i)] = func(x *api.Task) { x.Jobs = append(slices.Clone(x.Jobs), job) }
	}
	return l
}

// SK4: a task that may not be, as the first one and as the last one of them, and as one in the midst.
func TestLoadOfWrongTasks(t *testing.T) {
	good := api.Task{Prio: 3, Jobs: []api.Job{{Length: 2, At: 4, Due: 5}}, Acc: api.Account{Given: 9, Own: 9, Done: 2, Cut: 1, Late: 1}}
	for name, do := range wrongs() {
		for _, many := range []int{1, 2, 3, 7, mostTasks} {
			for place := range many {
				taken := make([]bool, mostTasks)
				tasks := []api.Task{}
				for i := range many {
					taken[mostTasks-1-i] = true
					tasks = append(tasks, copied(good))
				}
				if _, err := Load(fresh[:], taken, tasks, -1); err != nil {
					t.Fatalf("Load(.., %v, %v): %v", taken, tasks, err)
				}
				do(&tasks[place])
				refused(t, name, api.ErrState, fresh[:], taken, tasks, -1)
				refused(t, name, api.ErrState, fresh[:], taken, tasks, mostTasks-1)
				refused(t, name+" and no last one", api.ErrArg, fresh[:], taken, tasks, mostTasks)
				refused(t, name+" and no last one", api.ErrArg, fresh[:], taken, tasks, -2)
			}
		}
	}
}

// SK4: of two faults at once ErrArg is told ahead of ErrState.
func TestLoadOrder(t *testing.T) {
	few, taken := fresh[:mostTasks-1], make([]bool, mostTasks)
	zero := [mostTasks]int{}
	one := slices.Clone(taken)
	one[3] = true
	for _, last := range []int{-2, mostTasks, math.MinInt, math.MaxInt} {
		refused(t, "generations", api.ErrArg, few, taken[1:], nil, last)
		refused(t, "flags", api.ErrArg, fresh[:], taken[1:], nil, last)
		refused(t, "a generation 0", api.ErrArg, zero[:], taken, nil, last)
		refused(t, "no task", api.ErrArg, fresh[:], one, nil, last)
		refused(t, "a task that may not be", api.ErrArg, fresh[:], one, []api.Task{{Prio: -1}}, last)
	}
	refused(t, "generations and flags", api.ErrArg, few, taken, nil, 0)
	refused(t, "generations and tasks", api.ErrArg, few, taken[1:], []api.Task{{}}, -1)
	refused(t, "generations and a task that may not be", api.ErrArg, few, one[1:], []api.Task{{Prio: -1}}, -1)
	refused(t, "generations and a last one never given", api.ErrArg, few, taken[1:], nil, 4)
	refused(t, "flags and a last one never given", api.ErrState, fresh[:], taken[1:], nil, 4)
	refused(t, "a task that may not be and a last one never given", api.ErrState, fresh[:], one, []api.Task{{Prio: -1}}, 4)
	refused(t, "a task too many and a last one never given", api.ErrState, fresh[:], one, []api.Task{{}, {}}, 4)
}

// SK4: tasks at the ends of what they may be are loaded, and worked on.
func TestLoadOfEdges(t *testing.T) {
	most := api.Job{Length: longest, Cap: longest, At: mostTicks, Due: mostTicks}
	for _, x := range []api.Task{
		{}, {Prio: mostPrio}, {Jobs: []api.Job{}}, {Prio: mostPrio, Jobs: slices.Repeat([]api.Job{most}, mostJobs)}, {Jobs: []api.Job{{Length: 1, Cap: 1, At: 1, Due: 1}}},
		ticked(0, mostTicks), ticked(mostPrio, mostTicks-1), {Acc: api.Account{Given: mostTicks, Own: mostTicks, Done: mostTicks, Late: mostTicks}},
		{Acc: api.Account{Given: 2, Own: 2, Done: 1, Cut: 1, Late: 2}}, {Acc: api.Account{Given: 1, Own: 1}},
	} {
		for slot := range mostTasks {
			q := pairOf(t, fresh, map[int]api.Task{slot: x}, slot)
			h := numberOf(slot, 1)
			q.give(0)
			q.push(h, most, mostTicks)
			q.give(mostTicks - 1)
			q.create(0)
			q.remove(h)
		}
	}
}

// SK4: every call of a nil pool.
func TestNil(t *testing.T) {
	var p *Pool
	for _, n := range edges {
		if h, err := p.Create(n); h != 0 || err != api.ErrNone {
			t.Errorf("Create(%d) = %d, %v", n, h, err)
		}
		if h, what, late, is := p.Give(n); h != 0 || what != 0 || late != 0 || is {
			t.Errorf("Give(%d) = %d, %d, %d, %t", n, h, what, late, is)
		}
	}
	for _, h := range append([]api.Handle{numberOf(0, 1)}, strangers...) {
		if err := p.Remove(h); err != api.ErrNone {
			t.Errorf("Remove(%d): %v", h, err)
		}
		for _, now := range []int{-1, 0, mostTicks + 1} {
			for _, job := range []api.Job{{}, {Length: 1}} {
				if err := p.Push(h, job, now); err != api.ErrNone {
					t.Errorf("Push(%d, %v, %d): %v", h, job, now, err)
				}
			}
		}
		if x, err := p.Of(h); !reflect.DeepEqual(x, api.Task{}) || err != api.ErrNone {
			t.Errorf("Of(%d) = %v, %v", h, x, err)
		}
	}
	h, is := p.Next()
	if len(p.List()) != 0 || p.Ready() || h != 0 || is || p.Twin() != nil {
		t.Errorf("List, Ready, Next, Twin = %v, %t, %d, %t, %v", p.List(), p.Ready(), h, is, p.Twin())
	}
	if gens, taken, tasks, last := p.Save(); len(gens) != 0 || len(taken) != 0 || len(tasks) != 0 || last != 0 {
		t.Errorf("Save() = %v, %v, %v, %d", gens, taken, tasks, last)
	}
	if same, err := Load(p.Save()); same != nil || err != api.ErrArg {
		t.Errorf("Load of a nil pool's Save = %v, %v", same, err)
	}
}

// SK1 to SK3: every row of five calls of a few.
func TestEachRow(t *testing.T) {
	calls := []func(*pair){
		func(q *pair) { q.create(1) },
		func(q *pair) { q.create(0) },
		func(q *pair) { q.remove(numberOf(0, 1)) },
		func(q *pair) { q.push(numberOf(0, 1), api.Job{Length: 2, Due: 1}, 0) },
		func(q *pair) { q.push(numberOf(1, 1), api.Job{Length: 2, Cap: 1}, 1) },
		func(q *pair) { q.push(numberOf(0, 2), api.Job{Length: 1}, 1) },
		func(q *pair) { q.give(1) },
		func(q *pair) { q.give(3) },
	}
	const long = 5
	rows := 1
	for range long {
		rows *= len(calls)
	}
	for row := range rows {
		q := &pair{t, New(), modelOf()}
		for range long {
			calls[row%len(calls)](q)
			row /= len(calls)
		}
	}
}

// SK1 to SK5: rows of calls by chance, of pools of all sorts.
func TestRows(t *testing.T) {
	for seed := range 40 {
		for _, q := range starts(t) {
			r := rand.New(rand.NewSource(int64(seed)))
			q.stir(r, 150)
			q.wrongHandles()
		}
	}
}

// Rule 2: questions change nothing, and what was refused has changed nothing.
func TestQuestionsChangeNothing(t *testing.T) {
	for name, q := range starts(t) {
		q.give(0)
		gens, taken, tasks, last := q.p.Save()
		q.p.Ready()
		q.p.Next()
		q.p.List()
		q.p.Twin()
		q.wrongHandles()
		for _, h := range q.m.all() {
			q.p.Of(h)
			for _, now := range []int{-1, mostTicks + 1} {
				q.push(h, api.Job{Length: 1}, now)
				q.give(now)
			}
			q.push(h, api.Job{}, 0)
		}
		q.create(-1)
		q.give(mostTicks)
		again, flags, told, same := q.p.Save()
		if !slices.Equal(gens, again) || !slices.Equal(taken, flags) || !slices.EqualFunc(tasks, told, alike) || last != same {
			t.Errorf("%s: %v, %v, %v, %d became %v, %v, %v, %d", name, gens, taken, tasks, last, again, flags, told, same)
		}
	}
}

// Rule 4: pools are alone: what is done to one is not to be seen in another one, and the same row answers the same again.
func TestPoolsAreAlone(t *testing.T) {
	first := made(t)
	first.stir(rand.New(rand.NewSource(3)), 100)
	others := []*pair{made(t), made(t), busy(t)}
	for i := range 100 {
		for k, q := range others {
			q.stir(rand.New(rand.NewSource(int64(i*10+k))), 1)
		}
	}
	for _, q := range others {
		check(t, q.p, q.m)
	}
	again := made(t)
	again.stir(rand.New(rand.NewSource(3)), 100)
	check(t, again.p, first.m)
	check(t, first.p, again.m)
}

// SK1 to SK5: rows of calls as bytes tell them.
func FuzzCalls(f *testing.F) {
	f.Add([]byte{0, 3, 0, 1, 2, 0, 2, 0, 0, 2, 1, 2, 0, 0, 3, 1, 3, 2, 3, 3, 4, 5})
	f.Add([]byte{0, 40, 0, 200, 1, 0, 3, 255})
	f.Fuzz(func(t *testing.T, row []byte) {
		q := made(t)
		next := func() int {
			if len(row) == 0 {
				return 0
			}
			n := int(row[0])
			row = row[1:]
			if n >= 200 {
				return edges[n%len(edges)]
			}
			return n
		}
		h := func() api.Handle {
			l := append(q.m.all(), q.m.wrong()...)
			return l[uint(next())%uint(len(l))]
		}
		for len(row) > 0 {
			switch next() % 6 {
			case 0:
				q.create(next())
			case 1:
				q.remove(h())
			case 2:
				q.push(h(), api.Job{Length: next(), Cap: next(), At: 7, Due: next()}, next())
			case 3:
				q.give(next())
			case 4:
				q = q.twin()
			default:
				q = q.loaded()
			}
		}
	})
}
