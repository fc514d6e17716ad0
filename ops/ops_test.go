package ops

import (
	"errors"
	"fmt"
	"math"
	"reflect"
	"slices"
	"strings"
	"testing"

	"tithe/api"
	"tithe/kernel"
)

// noKinds are numbers that are no kinds.
var noKinds = []int{0, -1, 10, 11, -9, math.MinInt, math.MaxInt, 1 << 32, 1<<32 + 1, 1<<32 + 7, 256 + 1}

// ints are numbers at which something might change, the ends of the ints among them.
var ints = []int{
	math.MinInt, math.MinInt + 1, -1 << 32, -mostBurst, -10, -9, -1, 0, 1, 2, 9, 10, 31, 32, 100, mostBurst - 1, mostBurst, mostBurst + 1,
	longest, longest + 1, mostTicks, mostTicks + 1, 1<<32 + 1, math.MaxInt - 1, math.MaxInt,
}

// someHandles are such that may be, 0, and such that may not.
var someHandles = []api.Handle{
	0, rootHandle, nodeAt(1, 1), nodeAt(63, 7), nodeAt(mostSlot, lastGen), taskAt(0, 1), taskAt(7, 1023), slackAt(0, 1), slackAt(15, 10), slackAt(mostSlot, lastGen),
	-1, 1, 5, -1099511627777, kindFactor, kindFactor - 1, nodeAt(0, 0), nodeAt(0, lastGen+1), nodeAt(mostSlot+1, 1), 4*kindFactor + 1, math.MinInt, math.MaxInt,
}

// filled is an operation of a kind with something in every field.
func filled(kind int) api.Op {
	return api.Op{
		Kind: kind, At: nodeAt(3, 2), Task: taskAt(4, 5), Reserve: api.Reserve{Q: 6, P: 17},
		Job: api.Job{Length: 8, Cap: 9, At: 10, Due: 11}, N: 12,
	}
}

// wantNumber holds an error against a number; 0 stands for nil. It must be the number itself.
func wantNumber(t *testing.T, what string, err error, number int) {
	t.Helper()
	if number == 0 && err != nil || number != 0 && err != api.Errno(number) {
		t.Errorf("%s: %v, not %d", what, err, number)
	}
}

func TestExample(t *testing.T) {
	k := kernel.New()
	o := api.Op{Kind: api.OpCreate, At: k.Root(), Reserve: api.Reserve{Q: 3, P: 10}}
	if got := Text(o); got != "create n0.1 3/10" {
		t.Errorf("Text: %q", got)
	}
	a := Apply(k, o)
	if a.Handle != nodeAt(1, 1) || a.Err != 0 || Tell(o, a) != "n1.1" {
		t.Errorf("Apply: %v, %q", a, Tell(o, a))
	}
	o.Reserve = api.Reserve{Q: 2, P: 1}
	if a = Apply(k, o); a.Err != 2 || Tell(o, a) != "error range" {
		t.Errorf("of 2/1: %v, %q", a, Tell(o, a))
	}
	got, err := Read("tick 05")
	wantNumber(t, "Read", err, 4)
	if got != (api.Op{}) {
		t.Errorf("Read: %v", got)
	}
}

// TestExampleOfWork is chapter 28's: it goes through the answers of most kinds.
func TestExampleOfWork(t *testing.T) {
	k := kernel.New()
	for _, step := range [][2]string{
		{"create n0.1 3/10", "n1.1"},
		{"task n1.1 5", "t0.1"},
		{"job n1.1 t0.1 4 0 9", "ok"},
		{"tick 10", "ok"},
		{"show n1.1 t0.1", "prio 5 given 3 done 0 cut 0 late 0 [1 at 0 due 9]"},
		{"node n1.1", "parent n0.1 now 3/10 left 3 from 10 to 20 clock 3 given 3 3 0 0 0 0 closed 0 0 0 0 0 0 kids tasks t0.1"},
		{"task - 0", "s0.1"},
		{"job - s0.1 2 1 0", "ok"},
		{"tick 4", "ok"},
		{"show - s0.1", "prio 0 given 1 done 0 cut 1 late 0"},
		{"node n1.1", "parent n0.1 now 3/10 left 0 from 10 to 20 clock 6 given 6 6 2 1 0 1 closed 0 0 0 0 0 0 kids tasks t0.1"},
		{"untask n1.1 t0.1", "ok"},
		{"resize n1.1 1/2", "ok"},
		{"delete n1.1", "ok"},
		{"resize n1.1 1/2", "error dying"},
		{"node n1.1", "parent n0.1 now 3/10 next 1/2 dying left 0 from 10 to 20 clock 6 given 6 6 2 1 0 1 closed 0 0 0 0 0 0 kids tasks"},
		{"tick 6", "ok"},
		{"node n1.1", "error handle"},
		{"node n0.1", "parent - clock 20 given 20 14 0 0 0 0 closed 6 6 2 1 0 1 kids tasks"},
		{"show n0.1 t0.1", "error handle"},
		{"tick 4097", "error range"},
	} {
		o, err := Read(step[0])
		wantNumber(t, step[0], err, 0)
		if got := Tell(o, Apply(k, o)); got != step[1] {
			t.Fatalf("%s: %q, not %q", step[0], got, step[1])
		}
	}
}

func TestValid(t *testing.T) {
	for kind := create; kind <= show; kind++ {
		if kind != ticks {
			wantNumber(t, kindNames[kind], Valid(api.Op{Kind: kind}), 0)
			wantNumber(t, kindNames[kind], Valid(filled(kind)), 0)
			for _, n := range ints {
				wantNumber(t, kindNames[kind], Valid(api.Op{Kind: kind, N: n, At: -1, Task: -1, Reserve: api.Reserve{Q: n, P: n}, Job: api.Job{Length: n, Cap: n, Due: n}}), 0)
			}
		}
	}
	for _, kind := range noKinds {
		wantNumber(t, fmt.Sprint(kind), Valid(api.Op{Kind: kind}), 1)
		wantNumber(t, fmt.Sprint(kind), Valid(filled(kind)), 1)
		wantNumber(t, fmt.Sprint(kind), Valid(api.Op{Kind: kind, N: mostBurst + 1}), 1)
	}
	for n, number := range map[int]int{0: 2, 1: 0, 2: 0, mostBurst - 1: 0, mostBurst: 0, mostBurst + 1: 2, -1: 2, math.MinInt: 2, math.MaxInt: 2, 1<<32 + 1: 2, -1 << 32: 2} {
		wantNumber(t, fmt.Sprint("tick ", n), Valid(api.Op{Kind: ticks, N: n}), number)
		o := filled(ticks)
		o.N = n
		wantNumber(t, fmt.Sprint("tick ", n), Valid(o), number)
	}
}

func TestClean(t *testing.T) {
	at, work := nodeAt(3, 2), taskAt(4, 5)
	reserve, job := api.Reserve{Q: 6, P: 17}, api.Job{Length: 8, Cap: 9, Due: 11}
	clean := []api.Op{
		{},
		{Kind: api.OpCreate, At: at, Reserve: reserve},
		{Kind: api.OpResize, At: at, Reserve: reserve},
		{Kind: api.OpDelete, At: at},
		{Kind: api.OpTask, At: at, N: 12},
		{Kind: api.OpUntask, At: at, Task: work},
		{Kind: api.OpJob, At: at, Task: work, Job: job},
		{Kind: api.OpTick, N: 12},
		{Kind: api.OpNode, At: at},
		{Kind: api.OpTaskOf, At: at, Task: work},
	}
	for kind, o := range clean {
		if got := Clean(filled(kind)); got != o {
			t.Errorf("%d: %v, not %v", kind, got, o)
		}
		if got := Clean(o); got != o {
			t.Errorf("%d, clean already: %v, not %v", kind, got, o)
		}
		if got := Clean(api.Op{Kind: kind}); got != (api.Op{Kind: kind}) {
			t.Errorf("%d, of noughts: %v", kind, got)
		}
	}
	for _, kind := range noKinds {
		if got := Clean(filled(kind)); got != (api.Op{}) {
			t.Errorf("%d: %v", kind, got)
		}
	}
	// What can't be done is kept all the same, where it is a field of its own.
	o := api.Op{Kind: api.OpTick, N: math.MinInt, At: -1}
	if got := Clean(o); got != (api.Op{Kind: api.OpTick, N: math.MinInt}) {
		t.Errorf("%v: %v", o, got)
	}
}

func TestTaskLevel(t *testing.T) {
	level := []bool{false, false, false, false, true, true, true, false, false, false}
	for kind, is := range level {
		if TaskLevel(api.Op{Kind: kind}) != is || TaskLevel(filled(kind)) != is {
			t.Errorf("%d: not %v", kind, is)
		}
	}
	for _, kind := range noKinds {
		if TaskLevel(api.Op{Kind: kind}) || TaskLevel(filled(kind)) {
			t.Errorf("%d: true", kind)
		}
	}
}

// TestApply: what each kind answers, in each field of the Answer.
func TestApply(t *testing.T) {
	k := kernel.New()
	is := func(o api.Op, a api.Answer) {
		t.Helper()
		if got := want(t, k, o); !alike(got, a) {
			t.Fatalf("%q: %v, not %v", textOf(o), got, a)
		}
	}
	a, b, work, best := nodeAt(1, 1), nodeAt(2, 1), taskAt(0, 1), slackAt(0, 1)
	is(api.Op{Kind: create, At: rootHandle, Reserve: api.Reserve{Q: 1, P: 2}}, api.Answer{Handle: a})
	is(api.Op{Kind: create, At: a, Reserve: api.Reserve{Q: 1, P: 4}}, api.Answer{Handle: b})
	is(api.Op{Kind: addTask, At: a, N: 31}, api.Answer{Handle: work})
	is(api.Op{Kind: addTask, N: 7}, api.Answer{Handle: best})
	is(api.Op{Kind: addJob, At: a, Task: work, Job: api.Job{Length: 3, Cap: 2, At: -5, Due: 1}}, api.Answer{})
	is(api.Op{Kind: addJob, Task: best, Job: api.Job{Length: 1, At: mostTicks + 1}}, api.Answer{})
	is(api.Op{Kind: ticks, N: 3}, api.Answer{})
	is(api.Op{Kind: resize, At: a, Reserve: api.Reserve{Q: 2, P: 3}}, api.Answer{})
	is(api.Op{Kind: remove, At: b}, api.Answer{})
	acc := api.Account{Given: 2, Own: 1}
	is(api.Op{Kind: node, At: a}, api.Answer{Node: api.Node{
		Parent: rootHandle, Now: api.Reserve{Q: 1, P: 2}, Next: api.Reserve{Q: 2, P: 3}, Left: 0, Start: 2, End: 4,
		Clock: 2, Acc: acc, Kids: []api.Handle{b}, Tasks: []api.Handle{work},
	}})
	is(api.Op{Kind: node, At: b}, api.Answer{Node: api.Node{
		Parent: a, Now: api.Reserve{Q: 1, P: 4}, Dying: true, End: 4, Clock: 1, Acc: api.Account{Given: 1, Own: 1, Lent: 1},
	}})
	is(api.Op{Kind: node, At: rootHandle}, api.Answer{Node: api.Node{Clock: 3, Acc: api.Account{Given: 3, Own: 1}, Kids: []api.Handle{a}}})
	is(api.Op{Kind: show, At: a, Task: work}, api.Answer{Task: api.Task{
		Prio: 31, Jobs: []api.Job{{Length: 2, Cap: 1, Due: 1}}, Acc: api.Account{Given: 1, Own: 1},
	}})
	is(api.Op{Kind: show, Task: best}, api.Answer{Task: api.Task{Prio: 7, Acc: api.Account{Given: 1, Own: 1, Done: 1}}})
	is(api.Op{Kind: untask, At: a, Task: work}, api.Answer{})
	is(api.Op{Kind: untask, Task: best}, api.Answer{})
	if got := k.Slack(); len(got) != 0 || k.Now() != 3 {
		t.Errorf("behind all that: %v, %d", got, k.Now())
	}
}

// TestApplyLooksAtOwnFields: what stands in another kind's field is nothing to an operation.
func TestApplyLooksAtOwnFields(t *testing.T) {
	for kind := create; kind <= show; kind++ {
		for _, other := range []api.Op{filled(0), {At: -1, Task: -1, Reserve: api.Reserve{Q: -1, P: -1}, Job: api.Job{Length: -1, Cap: -1, At: -1, Due: -1}, N: -1}} {
			x := rich(t)
			o := x.fine[kind]
			full := o
			has := func(field string) bool { return strings.Contains(ownFields[kind], field) }
			if !has("A") {
				full.At = other.At
			}
			if !has("T") {
				full.Task = other.Task
			}
			if !has("R") {
				full.Reserve = other.Reserve
			}
			if !has("J") {
				full.Job = other.Job
			}
			if !has("N") {
				full.N = other.N
			}
			full.Job.At = other.Job.At
			plain, fuller := x.k.Clone(), x.k.Clone()
			a, b := Apply(plain, o), Apply(fuller, full)
			if a.Err != 0 || !alike(a, b) || stateOf(plain) != stateOf(fuller) {
				t.Errorf("%s: %v, %v", kindNames[kind], a, b)
			}
		}
	}
}

// small is a kernel in which most can go wrong: a row of nodes as deep as may be below a, with no slot free in all; of full's tasks one has as many jobs as may wait; dying goes at its boundary, below lies below it; no more best-effort tasks can be made. Behind what is fine for a kind there is one operation a kind that is done well.
type small struct {
	k                             *kernel.Kernel
	a, last, full, dying, below   api.Handle
	work, best, goneNode, goneOne api.Handle
	fine                          []api.Op
}

// rich is one.
func rich(t *testing.T) small {
	t.Helper()
	x := small{k: kernel.New()}
	makes := func(at api.Handle, q, p int) api.Handle {
		t.Helper()
		return done(t, x.k, api.Op{Kind: create, At: at, Reserve: api.Reserve{Q: q, P: p}}).Handle
	}
	x.goneNode = makes(rootHandle, 1, 1)
	done(t, x.k, api.Op{Kind: remove, At: x.goneNode})
	done(t, x.k, api.Op{Kind: ticks, N: 1})
	x.a = makes(rootHandle, 1, 2)
	x.last = x.a
	for range mostDepth - 1 {
		x.last = makes(x.last, 1, 2)
	}
	x.full = makes(rootHandle, 1, 8)
	x.dying = makes(rootHandle, 1, 1000)
	x.below = makes(x.dying, 1, 5)
	done(t, x.k, api.Op{Kind: remove, At: x.dying})
	for range mostTasks {
		x.work = done(t, x.k, api.Op{Kind: addTask, At: x.full, N: 3}).Handle
	}
	for range mostJobs {
		done(t, x.k, api.Op{Kind: addJob, At: x.full, Task: x.work, Job: api.Job{Length: 2}})
	}
	x.goneOne = done(t, x.k, api.Op{Kind: addTask, At: x.a}).Handle
	done(t, x.k, api.Op{Kind: untask, At: x.a, Task: x.goneOne})
	for range mostSlack {
		x.best = done(t, x.k, api.Op{Kind: addTask}).Handle
	}
	done(t, x.k, api.Op{Kind: ticks, N: 5})
	free := done(t, x.k, api.Op{Kind: addTask, At: x.a, N: 4}).Handle
	x.fine = []api.Op{
		{},
		{Kind: create, At: x.full, Reserve: api.Reserve{Q: 1, P: 3}},
		{Kind: resize, At: x.full, Reserve: api.Reserve{Q: 1, P: 9}},
		{Kind: remove, At: x.full},
		{Kind: addTask, At: x.a, N: 12},
		{Kind: untask, At: x.full, Task: x.work},
		{Kind: addJob, At: x.a, Task: free, Job: api.Job{Length: 8, Cap: 9, Due: 11}},
		{Kind: ticks, N: 12},
		{Kind: node, At: x.full},
		{Kind: show, At: x.full, Task: x.work},
	}
	return x
}

// crowd fills up a kernel's slots below a node.
func crowd(t *testing.T, k *kernel.Kernel, at api.Handle) {
	t.Helper()
	for len(k.All()) < mostNodes {
		done(t, k, api.Op{Kind: create, At: at, Reserve: api.Reserve{Q: 1, P: 64}})
	}
}

// TestApplyErrors: each kind with each error of the kernel.
func TestApplyErrors(t *testing.T) {
	x := rich(t)
	half, none := api.Reserve{Q: 1, P: 2}, api.Reserve{Q: 2, P: 1}
	job := api.Job{Length: 1}
	for _, h := range []api.Handle{-1, 1, x.goneNode, nodeAt(40, 1), x.work, x.best, math.MaxInt, math.MinInt, rootHandle + 1} {
		for kind := create; kind <= show; kind++ {
			if kind != ticks {
				wantError(t, x.k, api.Op{Kind: kind, At: h, Task: x.work, Reserve: half, Job: job, N: 1}, api.ErrHandle)
			}
		}
	}
	for _, kind := range []int{create, resize, remove, node} {
		wantError(t, x.k, api.Op{Kind: kind, Reserve: half}, api.ErrHandle)
	}
	// A task's node, or 0, is there, and has not that task.
	for _, kind := range []int{untask, addJob, show} {
		wantError(t, x.k, api.Op{Kind: kind, At: x.a, Task: x.goneOne, Job: job}, api.ErrHandle)
		wantError(t, x.k, api.Op{Kind: kind, At: x.full, Task: x.best, Job: job}, api.ErrHandle)
		wantError(t, x.k, api.Op{Kind: kind, Task: x.work, Job: job}, api.ErrHandle)
		wantError(t, x.k, api.Op{Kind: kind, Task: slackAt(0, 9), Job: job}, api.ErrHandle)
		wantError(t, x.k, api.Op{Kind: kind, At: rootHandle, Task: x.work, Job: job}, api.ErrHandle)
		wantError(t, x.k, api.Op{Kind: kind, At: x.full, Job: job}, api.ErrHandle)
	}
	for _, h := range []api.Handle{x.dying, x.below} {
		wantError(t, x.k, api.Op{Kind: create, At: h, Reserve: half}, api.ErrDying)
		wantError(t, x.k, api.Op{Kind: resize, At: h, Reserve: half}, api.ErrDying)
		wantError(t, x.k, api.Op{Kind: remove, At: h}, api.ErrDying)
	}
	wantError(t, x.k, api.Op{Kind: resize, At: rootHandle, Reserve: half}, api.ErrRoot)
	wantError(t, x.k, api.Op{Kind: remove, At: rootHandle}, api.ErrRoot)
	wantError(t, x.k, api.Op{Kind: addTask, At: rootHandle}, api.ErrRoot)
	for _, r := range []api.Reserve{none, {}, {Q: -1, P: 1}, {Q: 1, P: mostPeriod + 1}, {Q: math.MinInt, P: math.MaxInt}} {
		wantError(t, x.k, api.Op{Kind: create, At: x.a, Reserve: r}, api.ErrRange)
		wantError(t, x.k, api.Op{Kind: resize, At: x.a, Reserve: r}, api.ErrRange)
	}
	for _, prio := range []int{-1, mostPrio + 1, math.MaxInt, math.MinInt} {
		wantError(t, x.k, api.Op{Kind: addTask, At: x.a, N: prio}, api.ErrRange)
		wantError(t, x.k, api.Op{Kind: addTask, N: prio}, api.ErrRange)
	}
	for _, j := range []api.Job{{}, {Length: -1}, {Length: longest + 1}, {Length: 1, Cap: -1}, {Length: 1, Cap: longest + 1}, {Length: 1, Due: -1}, {Length: 1, Due: mostTicks + 1}} {
		wantError(t, x.k, api.Op{Kind: addJob, At: x.full, Task: x.work, Job: j}, api.ErrRange)
		wantError(t, x.k, api.Op{Kind: addJob, Task: x.best, Job: j}, api.ErrRange)
	}
	wantError(t, x.k, api.Op{Kind: addJob, At: x.full, Task: x.work, Job: job}, api.ErrFull)
	wantError(t, x.k, api.Op{Kind: create, At: x.last, Reserve: half}, api.ErrDepth)
	wantError(t, x.k, api.Op{Kind: create, At: rootHandle, Reserve: half}, api.ErrOverload)
	wantError(t, x.k, api.Op{Kind: resize, At: x.full, Reserve: half}, api.ErrOverload)
	wantError(t, x.k, api.Op{Kind: addTask, At: x.full}, api.ErrRoom)
	wantError(t, x.k, api.Op{Kind: addTask}, api.ErrRoom)
	for range mostJobs {
		done(t, x.k, api.Op{Kind: addJob, Task: x.best, Job: job})
	}
	wantError(t, x.k, api.Op{Kind: addJob, Task: x.best, Job: job}, api.ErrFull)
	crowd(t, x.k, x.full)
	wantError(t, x.k, api.Op{Kind: create, At: rootHandle, Reserve: half}, api.ErrRoom)
	wantError(t, late(t, mostTicks), api.Op{Kind: ticks, N: 1}, api.ErrTime)
	wantError(t, late(t, mostTicks), api.Op{Kind: ticks, N: mostBurst}, api.ErrTime)
}

// TestApplyRefuses: nothing is done of what Valid refuses.
func TestApplyRefuses(t *testing.T) {
	x := rich(t)
	for _, kind := range noKinds {
		wantError(t, x.k, api.Op{Kind: kind}, api.ErrArg)
		wantError(t, x.k, filled(kind), api.ErrArg)
		for _, o := range x.fine {
			o.Kind = kind
			wantError(t, x.k, o, api.ErrArg)
		}
	}
	for _, n := range ints {
		if n < 1 || n > mostBurst {
			wantError(t, x.k, api.Op{Kind: ticks, N: n}, api.ErrRange)
		}
	}
	wantError(t, late(t, mostTicks), api.Op{Kind: ticks, N: 0}, api.ErrRange)
}

func TestApplyTicks(t *testing.T) {
	for _, n := range []int{1, 2, 3, 100, mostBurst - 1, mostBurst} {
		x := rich(t)
		before := x.k.Now()
		done(t, x.k, api.Op{Kind: ticks, N: n})
		if got := x.k.Now() - before; got != n {
			t.Errorf("tick %d: %d of them", n, got)
		}
	}
	// Up to the first error: the ticks ahead of it were done.
	for _, room := range []int{0, 1, 2, mostBurst - 1} {
		for _, n := range []int{room + 1, mostBurst} {
			k, other := late(t, mostTicks-room), late(t, mostTicks-room)
			for range room {
				if _, err := other.Tick(); err != nil {
					t.Fatal(err)
				}
			}
			if got := Apply(k, api.Op{Kind: ticks, N: n}); !reflect.DeepEqual(got, api.Answer{Err: int(api.ErrTime)}) {
				t.Errorf("tick %d with room for %d: %v", n, room, got)
			}
			if k.Now() != mostTicks || stateOf(k) != stateOf(other) {
				t.Errorf("tick %d with room for %d: at %d", n, room, k.Now())
			}
		}
	}
	for _, n := range []int{1, 7, mostBurst} {
		k := late(t, mostTicks-n)
		done(t, k, api.Op{Kind: ticks, N: n})
		if k.Now() != mostTicks {
			t.Errorf("tick %d: at %d", n, k.Now())
		}
	}
}

// TestApplyOfNoKernel: nil, and one that no call has made.
func TestApplyOfNoKernel(t *testing.T) {
	for kind := create; kind <= show; kind++ {
		o := filled(kind)
		if got := Apply(nil, o); !reflect.DeepEqual(got, api.Answer{Err: 1}) {
			t.Errorf("nil: %s: %v", kindNames[kind], got)
		}
		for _, at := range []api.Handle{0, rootHandle, -1} {
			o.At = at
			if got := Apply(nil, o); !reflect.DeepEqual(got, api.Answer{Err: 1}) {
				t.Errorf("nil: %s: %v", textOf(o), got)
			}
			if got := Apply(new(kernel.Kernel), o); got.Err == 0 || !reflect.DeepEqual(got, api.Answer{Err: got.Err}) {
				t.Errorf("none: %s: %v", textOf(o), got)
			}
		}
	}
	for _, kind := range noKinds {
		if got := Apply(nil, filled(kind)); !reflect.DeepEqual(got, api.Answer{Err: 1}) {
			t.Errorf("nil: %d: %v", kind, got)
		}
	}
	// Valid's number is named ahead of the kernel.
	if got := Apply(nil, api.Op{Kind: ticks}); !reflect.DeepEqual(got, api.Answer{Err: 2}) {
		t.Errorf("nil: tick 0: %v", got)
	}
	answers, err := All(nil, []api.Op{{Kind: create}, {Kind: ticks}, {Kind: ticks, N: 1}, {}})
	wantNumber(t, "All of nil", err, 0)
	if !reflect.DeepEqual(answers, []api.Answer{{Err: 1}, {Err: 2}, {Err: 1}, {Err: 1}}) {
		t.Errorf("All of nil: %v", answers)
	}
	_, err = All(nil, make([]api.Op, mostLines+1))
	wantNumber(t, "All of nil, and too many", err, 3)
}

func TestAll(t *testing.T) {
	k := kernel.New()
	for _, l := range [][]api.Op{nil, {}} {
		before := stateOf(k)
		answers, err := All(k, l)
		wantNumber(t, "All of none", err, 0)
		if len(answers) != 0 || stateOf(k) != before {
			t.Errorf("All of none: %v", answers)
		}
	}
	// With refused ones among them, that those behind don't hang on.
	a := nodeAt(1, 1)
	l := []api.Op{
		{Kind: create, At: rootHandle, Reserve: api.Reserve{Q: 1, P: 2}},
		{Kind: create, At: rootHandle, Reserve: api.Reserve{Q: 2, P: 3}},
		{},
		{Kind: addTask, At: a, N: 1},
		{Kind: ticks, N: 0},
		{Kind: addJob, At: a, Task: taskAt(0, 1), Job: api.Job{Length: 2}},
		{Kind: ticks, N: 3},
		{Kind: show, At: a, Task: taskAt(0, 1)},
		{Kind: node, At: nodeAt(2, 1)},
		{Kind: node, At: a},
	}
	answers, err := All(k, l)
	wantNumber(t, "All", err, 0)
	acc := api.Account{Given: 2, Own: 2, Done: 1}
	expected := []api.Answer{
		{Handle: a}, {Err: 80}, {Err: 1}, {Handle: taskAt(0, 1)}, {Err: 2}, {}, {},
		{Task: api.Task{Prio: 1, Acc: acc}}, {Err: 20},
		{Node: api.Node{Parent: rootHandle, Now: api.Reserve{Q: 1, P: 2}, Start: 2, End: 4, Clock: 2, Acc: acc, Tasks: []api.Handle{taskAt(0, 1)}}},
	}
	if !slices.EqualFunc(answers, expected, alike) {
		t.Errorf("All: %v, not %v", answers, expected)
	}
}

func TestAllOfMany(t *testing.T) {
	k := kernel.New()
	for _, many := range []int{mostLines - 1, mostLines} {
		before := k.Now()
		answers, err := All(k, slices.Repeat([]api.Op{{Kind: ticks, N: 1}}, many))
		wantNumber(t, "All", err, 0)
		if len(answers) != many || k.Now()-before != many || slices.ContainsFunc(answers, func(a api.Answer) bool { return !alike(a, api.Answer{}) }) {
			t.Errorf("All of %d: %d answers, %d ticks", many, len(answers), k.Now()-before)
		}
	}
	for _, many := range []int{mostLines + 1, 2 * mostLines} {
		for _, o := range []api.Op{{Kind: ticks, N: 1}, {}, {Kind: create, At: rootHandle, Reserve: api.Reserve{Q: 1, P: 2}}} {
			before := stateOf(k)
			answers, err := All(k, slices.Repeat([]api.Op{o}, many))
			wantNumber(t, "All of too many", err, 3)
			if len(answers) != 0 || stateOf(k) != before {
				t.Errorf("All of %d: %d answers, and the kernel is %s, not %s", many, len(answers), stateOf(k), before)
			}
		}
	}
	// Each one's bursts are its own.
	k = kernel.New()
	if _, err := All(k, slices.Repeat([]api.Op{{Kind: ticks, N: mostBurst}}, 8)); err != nil || k.Now() != 8*mostBurst {
		t.Errorf("8 bursts: %v, at %d", err, k.Now())
	}
}

func TestText(t *testing.T) {
	for text, o := range map[string]api.Op{
		"create n3.2 6/17":                   filled(create),
		"resize n3.2 6/17":                   filled(resize),
		"delete n3.2":                        filled(remove),
		"task n3.2 12":                       filled(addTask),
		"untask n3.2 t4.5":                   filled(untask),
		"job n3.2 t4.5 8 9 11":               filled(addJob),
		"tick 12":                            filled(ticks),
		"node n3.2":                          filled(node),
		"show n3.2 t4.5":                     filled(show),
		"create - 0/0":                       {Kind: create},
		"resize - 0/0":                       {Kind: resize},
		"delete -":                           {Kind: remove},
		"task - 0":                           {Kind: addTask},
		"untask - -":                         {Kind: untask},
		"job - - 0 0 0":                      {Kind: addJob},
		"tick 0":                             {Kind: ticks},
		"node -":                             {Kind: node},
		"show - -":                           {Kind: show},
		"create #-1 -1/-20":                  {Kind: create, At: -1, Reserve: api.Reserve{Q: -1, P: -20}},
		"delete #1099511627776":              {Kind: remove, At: kindFactor},
		"task s15.1023 -9223372036854775808": {Kind: addTask, At: slackAt(15, 1023), N: math.MinInt},
		"tick 9223372036854775807":           {Kind: ticks, N: math.MaxInt},
		"tick -9223372036854775808":          {Kind: ticks, N: math.MinInt},
		"resize n0.1 9223372036854775807/-9223372036854775808":       {Kind: resize, At: rootHandle, Reserve: api.Reserve{Q: math.MaxInt, P: math.MinInt}},
		"untask #9223372036854775807 #-9223372036854775808":          {Kind: untask, At: math.MaxInt, Task: math.MinInt},
		"job n65535.1023 #5 -1 9223372036854775807 1073741825":       {Kind: addJob, At: nodeAt(mostSlot, lastGen), Task: 5, Job: api.Job{Length: -1, Cap: math.MaxInt, Due: mostTicks + 1}},
		"show #1099511628800 #1168231104513":                         {Kind: show, At: nodeAt(0, lastGen+1), Task: nodeAt(mostSlot+1, 1)},
		"node #4398046511105":                                        {Kind: node, At: 4*kindFactor + 1},
		"job s0.1 n0.1 -9223372036854775808 -9223372036854775808 -1": {Kind: addJob, At: slackAt(0, 1), Task: rootHandle, Job: api.Job{Length: math.MinInt, Cap: math.MinInt, At: 7, Due: -1}},
	} {
		if got := Text(o); got != text {
			t.Errorf("%v: %q, not %q", o, got, text)
		}
		got, err := Read(text)
		wantNumber(t, text, err, 0)
		if got != cleaned(o) {
			t.Errorf("Read of %q: %v, not %v", text, got, cleaned(o))
		}
	}
	for _, kind := range noKinds {
		if got := Text(filled(kind)); got != "" {
			t.Errorf("%d: %q", kind, got)
		}
	}
}

// TestTextOfEdges: each number and each handle in each field of each kind.
func TestTextOfEdges(t *testing.T) {
	try := func(o api.Op) {
		text := Text(o)
		if text != textOf(o) {
			t.Errorf("%v: %q, not %q", o, text, textOf(o))
		}
		got, err := Read(text)
		if err != nil || got != cleaned(o) || got != Clean(o) {
			t.Errorf("Read of %q: %v %v, not %v", text, got, err, cleaned(o))
		}
	}
	for kind := create; kind <= show; kind++ {
		for _, n := range ints {
			for field := range 6 {
				o := filled(kind)
				*[]*int{&o.N, &o.Reserve.Q, &o.Reserve.P, &o.Job.Length, &o.Job.Cap, &o.Job.Due}[field] = n
				try(o)
			}
		}
		for _, h := range someHandles {
			o := filled(kind)
			o.At = h
			try(o)
			for _, h := range someHandles {
				o.Task = h
				try(o)
			}
		}
	}
}

// unreadable are texts of no operation.
var unreadable = []string{
	"", " ", "\n", "-", "#", "0", "create", "tick", "node", "delete", "op 0", "op 10", "op", "list n0.1", "taskof n0.1 t0.1", "Create n0.1 3/10", "CREATE n0.1 3/10", "ticks 1",
	// A word too few, or too many.
	"create n0.1", "create 3/10", "resize n0.1", "task n1.1", "untask n1.1", "job n1.1 t0.1", "job n1.1 t0.1 4", "job n1.1 t0.1 4 0", "show n1.1",
	"create n0.1 3/10 1", "resize n1.1 3/10 x", "delete n1.1 n1.1", "task n1.1 5 5", "untask n1.1 t0.1 1", "job n1.1 t0.1 4 0 9 1", "tick 1 1", "node n1.1 -", "show n1.1 t0.1 t0.1",
	"create n0.1 3 10", "create n0.1 3 / 10", "create n0.1 3/ 10", "tick 1 tick 1",
	// Another blank, or one that is not between two words.
	" tick 1", "tick 1 ", "tick  1", "tick\t1", "tick\n1", "tick 1\n", "tick 1\r", "tick\u00a01", "tick 1\x00", "create  n0.1 3/10", "create n0.1  3/10", "create n0.1 3/10 ", "node n1.1 ", "node  n1.1", "delete\tn1.1",
	// A sign, a leading nought, no digits.
	"tick +1", "tick -0", "tick 00", "tick 01", "tick 05", "tick -05", "tick --5", "tick -", "tick 1-", "tick 0x1", "tick 1e3", "tick 1_000", "tick 1.0", "tick x", "tick /", "tick 1/2", "tick \u0661",
	"create n0.1 +3/10", "create n0.1 3/+10", "create n0.1 03/10", "create n0.1 3/010", "create n0.1 3", "create n0.1 3/", "create n0.1 /10", "create n0.1 /", "create n0.1 3//10", "create n0.1 3/10/1", "create n0.1 3/10/", "create n0.1 3:10", "create n0.1 -0/1", "create n0.1 0/-0",
	"task n1.1 +5", "task n1.1 05", "task n1.1 -", "task n1.1 t0.1", "job n1.1 t0.1 +4 0 9", "job n1.1 t0.1 4 00 9", "job n1.1 t0.1 4 0 09", "job n1.1 t0.1 4 -0 9", "job n1.1 t0.1 4 0 due",
	// A number that no int holds.
	"tick 9223372036854775808", "tick -9223372036854775809", "tick 18446744073709551617", "tick 99999999999999999999999", "task n1.1 9223372036854775808",
	"create n0.1 9223372036854775808/1", "create n0.1 1/9223372036854775808", "create n0.1 -9223372036854775809/1", "job n1.1 t0.1 9223372036854775808 0 0", "job n1.1 t0.1 1 9223372036854775808 0", "job n1.1 t0.1 1 0 9223372036854775808", "job n1.1 t0.1 1 0 -9223372036854775809",
	// A handle that is told otherwise, or by nothing.
	"node #0", "node #-0", "node #+1", "node #01", "node #", "node ##1", "node #x", "node # 1", "node 1", "node 1099511627777", "node #1099511627777", "node #9223372036854775808", "node #-9223372036854775809", "node n0", "node n0.0", "node n0.1024", "node n65536.1", "node n00.1", "node n0.01", "node +n0.1", "node n+0.1", "node n-1.1", "node n.1", "node x0.1", "node N0.1", "node --", "node -1", "node root", "delete #0", "delete #1099511627777",
	"untask #2199023255553 t0.1", "untask n1.1 #2199023255553", "untask n1.1 #0", "show n1.1 x", "show t0.1", "job - #3298534883329 1 0 0", "create #1099511627777 1/2", "task #0 1",
}

func TestReadOfNoText(t *testing.T) {
	for _, s := range unreadable {
		got, err := Read(s)
		wantNumber(t, fmt.Sprintf("%q", s), err, 4)
		if got != (api.Op{}) {
			t.Errorf("%q: %v", s, got)
		}
		if _, number := read(s); number != 4 {
			t.Errorf("%q: the test's own reading takes it", s)
		}
	}
	// Each name with no field, and each with one's first letter, or another one's.
	for kind := create; kind <= show; kind++ {
		text := textOf(filled(kind))
		for _, s := range []string{kindNames[kind], kindNames[kind] + " ", text[1:], text[:len(text)-1] + "!", strings.ToUpper(text[:1]) + text[1:], text + " ", " " + text, text + "\n", text + " -", text + " 0"} {
			got, err := Read(s)
			wantNumber(t, fmt.Sprintf("%q", s), err, 4)
			if got != (api.Op{}) {
				t.Errorf("%q: %v", s, got)
			}
		}
	}
}

func TestReadOfLongTexts(t *testing.T) {
	for size, number := range map[int]int{255: 4, 256: 4, 257: 3, 258: 3, 100000: 3} {
		for _, s := range []string{strings.Repeat("x", size), "tick " + strings.Repeat("1", size-5), "tick 1" + strings.Repeat(" ", size-6), strings.Repeat(" ", size), strings.Repeat("\u00e9", size)[:size]} {
			got, err := Read(s)
			wantNumber(t, fmt.Sprintf("%d bytes", size), err, number)
			if got != (api.Op{}) {
				t.Errorf("%d bytes: %v", size, got)
			}
		}
	}
	// It is bytes that are counted.
	_, err := Read(strings.Repeat("\u00e9", 129))
	wantNumber(t, "129 letters of two bytes", err, 3)
}

func TestTellErrors(t *testing.T) {
	for kind := -1; kind <= 10; kind++ {
		for number := -300; number <= 300; number++ {
			if number == 0 {
				continue
			}
			text := fmt.Sprintf("error %d", number)
			if name, has := errorNames[number]; has {
				text = "error " + name
			}
			// An error goes ahead of all else.
			a := full()
			a.Err = number
			for _, a := range []api.Answer{{Err: number}, a} {
				if got := Tell(api.Op{Kind: kind}, a); got != text {
					t.Fatalf("%d, %d: %q, not %q", kind, number, got, text)
				}
			}
		}
	}
	for number, text := range map[int]string{
		math.MaxInt: "error 9223372036854775807", math.MinInt: "error -9223372036854775808", 1<<32 + 1: "error 4294967297", 1 << 32: "error 4294967296",
		80: "error overload", 280: "error script", 1: "error arg", -1: "error -1", 5: "error 5", 281: "error 281",
	} {
		if got := Tell(filled(create), api.Answer{Err: number}); got != text {
			t.Errorf("%d: %q, not %q", number, got, text)
		}
	}
}

func TestTell(t *testing.T) {
	for _, kind := range []int{create, addTask} {
		for _, h := range someHandles {
			a := full()
			a.Err, a.Handle = 0, h
			if got := Tell(filled(kind), a); got != told(h) {
				t.Errorf("%s: %q, not %q", kindNames[kind], got, told(h))
			}
		}
	}
	for _, kind := range append([]int{resize, remove, untask, addJob, ticks}, noKinds...) {
		a := full()
		a.Err = 0
		for _, a := range []api.Answer{{}, a} {
			if got := Tell(filled(kind), a); got != "ok" {
				t.Errorf("%d: %q", kind, got)
			}
		}
	}
}

func TestTellNode(t *testing.T) {
	acc, closed := api.Account{Given: 1, Own: 2, Lent: 3, Done: 4, Cut: 5, Late: 6}, api.Account{Given: 7, Own: 8, Lent: 9, Done: 10, Cut: 11, Late: 12}
	for text, n := range map[string]api.Node{
		"parent - clock 0 given 0 0 0 0 0 0 closed 0 0 0 0 0 0 kids tasks": {},
		"parent - clock 9 given 1 2 3 4 5 6 closed 7 8 9 10 11 12 kids n1.1 n2.7 tasks": {
			Clock: 9, Acc: acc, Closed: closed, Kids: []api.Handle{nodeAt(1, 1), nodeAt(2, 7)},
		},
		// Without a reservation there is no period, whatever else is filled.
		"parent n1.1 clock 9 given 1 2 3 4 5 6 closed 7 8 9 10 11 12 kids tasks t0.1": {
			Parent: nodeAt(1, 1), Next: api.Reserve{Q: 1, P: 2}, Dying: true, Left: 1, Start: 2, End: 3, Clock: 9, Acc: acc, Closed: closed, Tasks: []api.Handle{taskAt(0, 1)},
		},
		"parent n0.1 now 3/10 left 2 from 20 to 30 clock 7 given 0 0 0 0 0 0 closed 0 0 0 0 0 0 kids tasks": {
			Parent: rootHandle, Now: api.Reserve{Q: 3, P: 10}, Left: 2, Start: 20, End: 30, Clock: 7, Kids: []api.Handle{}, Tasks: []api.Handle{},
		},
		"parent n0.1 now 3/10 next 1/2 left 0 from 0 to 10 clock 0 given 0 0 0 0 0 0 closed 0 0 0 0 0 0 kids tasks": {
			Parent: rootHandle, Now: api.Reserve{Q: 3, P: 10}, Next: api.Reserve{Q: 1, P: 2}, End: 10,
		},
		"parent n0.1 now 3/10 dying left 0 from 0 to 10 clock 0 given 0 0 0 0 0 0 closed 0 0 0 0 0 0 kids tasks": {
			Parent: rootHandle, Now: api.Reserve{Q: 3, P: 10}, Dying: true, End: 10,
		},
		"parent n0.1 now 3/10 next 1/2 dying left 0 from 0 to 10 clock 0 given 0 0 0 0 0 0 closed 0 0 0 0 0 0 kids tasks": {
			Parent: rootHandle, Now: api.Reserve{Q: 3, P: 10}, Next: api.Reserve{Q: 1, P: 2}, Dying: true, End: 10,
		},
		// A reservation is the zero one only if both its numbers are noughts; what may not be is told as it is.
		"parent #-1 now 0/1 next 2/0 left -1 from -2 to -3 clock -4 given -1 0 0 0 0 0 closed 0 0 0 0 0 -9223372036854775808 kids - #5 tasks #9223372036854775807": {
			Parent: -1, Now: api.Reserve{P: 1}, Next: api.Reserve{Q: 2}, Left: -1, Start: -2, End: -3, Clock: -4, Acc: api.Account{Given: -1}, Closed: api.Account{Late: math.MinInt},
			Kids: []api.Handle{0, 5}, Tasks: []api.Handle{math.MaxInt},
		},
		"parent - now -1/0 next 0/-1 left 0 from 0 to 0 clock 0 given 0 0 0 0 0 0 closed 0 0 0 0 0 0 kids tasks s1.1 t2.3 n4.5": {
			Now: api.Reserve{Q: -1}, Next: api.Reserve{P: -1}, Tasks: []api.Handle{slackAt(1, 1), taskAt(2, 3), nodeAt(4, 5)},
		},
	} {
		a := full()
		a.Err, a.Node = 0, n
		for _, a := range []api.Answer{{Node: n}, a} {
			if got := Tell(filled(node), a); got != text {
				t.Errorf("%q, not %q", got, text)
			}
		}
	}
}

func TestTellNodeWithMany(t *testing.T) {
	for _, many := range []int{1, 2, 8, 63, 100000} {
		n := api.Node{Kids: slices.Repeat([]api.Handle{nodeAt(7, 1)}, many), Tasks: slices.Repeat([]api.Handle{taskAt(1, 2)}, many)}
		text := "parent - clock 0 given 0 0 0 0 0 0 closed 0 0 0 0 0 0 kids" + strings.Repeat(" n7.1", many) + " tasks" + strings.Repeat(" t1.2", many)
		if got := Tell(api.Op{Kind: node}, api.Answer{Node: n}); got != text {
			t.Errorf("%d: %q", many, got[:100])
		}
	}
}

func TestTellTask(t *testing.T) {
	acc := api.Account{Given: 9, Own: 9, Done: 3, Cut: 2, Late: 1}
	for text, work := range map[string]api.Task{
		"prio 0 given 0 done 0 cut 0 late 0":  {},
		"prio 31 given 9 done 3 cut 2 late 1": {Prio: 31, Acc: acc, Jobs: []api.Job{}},
		"prio 5 given 9 done 3 cut 2 late 1 [2 at 10 due 5] [4 cap 1 at 11]": {
			Prio: 5, Acc: acc, Jobs: []api.Job{{Length: 2, At: 10, Due: 5}, {Length: 4, Cap: 1, At: 11}},
		},
	} {
		a := full()
		a.Err, a.Task = 0, work
		for _, a := range []api.Answer{{Task: work}, a} {
			if got := Tell(filled(show), a); got != text {
				t.Errorf("%q, not %q", got, text)
			}
		}
	}
	// task.Show tells nothing of what may not be.
	for _, work := range []api.Task{{Prio: -1}, {Prio: mostPrio + 1}, {Jobs: []api.Job{{}}}, {Acc: api.Account{Given: 1}}, {Jobs: slices.Repeat([]api.Job{{Length: 1}}, mostJobs+1)}} {
		if got := Tell(filled(show), api.Answer{Task: work}); got != "" {
			t.Errorf("%v: %q", work, got)
		}
	}
}

// full is an answer with something in every field.
func full() api.Answer {
	return api.Answer{
		Err: 1, Handle: nodeAt(9, 9),
		Node: api.Node{
			Parent: nodeAt(8, 8), Now: api.Reserve{Q: 2, P: 3}, Next: api.Reserve{Q: 4, P: 5}, Dying: true, Left: 6, Start: 7, End: 8, Clock: 9,
			Acc: api.Account{Given: 10, Own: 11, Lent: 12, Done: 13, Cut: 14, Late: 15}, Closed: api.Account{Given: 16, Own: 17, Lent: 18, Done: 19, Cut: 20, Late: 21},
			Kids: []api.Handle{nodeAt(22, 1), nodeAt(23, 1)}, Tasks: []api.Handle{taskAt(24, 1), taskAt(25, 1)},
		},
		Task: api.Task{
			Prio: 26, Jobs: []api.Job{{Length: 27, Cap: 28, At: 29, Due: 30}, {Length: 31, Cap: 32, At: 33, Due: 34}},
			Acc: api.Account{Given: 35, Own: 36, Lent: 37, Done: 38, Cut: 39, Late: 40},
		},
	}
}

// leaves are all numbers and truths in a value, with those of its lists.
func leaves(v reflect.Value) []reflect.Value {
	var l []reflect.Value
	switch v.Kind() {
	case reflect.Struct:
		for i := range v.NumField() {
			l = append(l, leaves(v.Field(i))...)
		}
	case reflect.Slice:
		for i := range v.Len() {
			l = append(l, leaves(v.Index(i))...)
		}
	default:
		l = append(l, v)
	}
	return l
}

// wantSame holds Same of two answers, both ways round, against what it must be.
func wantSame(t *testing.T, what string, a, b api.Answer, same bool) {
	t.Helper()
	if Same(a, b) != same || Same(b, a) != same {
		t.Errorf("%s: not %v", what, same)
	}
}

func TestSame(t *testing.T) {
	wantSame(t, "zero ones", api.Answer{}, api.Answer{}, true)
	wantSame(t, "full ones", full(), full(), true)
	wantSame(t, "a zero and a full one", api.Answer{}, full(), false)
	many := len(leaves(reflect.ValueOf(full())))
	if many != 43 {
		t.Errorf("%d numbers and truths", many)
	}
	// One number, or truth, is another one.
	for i := range many {
		for _, base := range []func() api.Answer{full, func() api.Answer { a := full(); a.Err = 0; return a }} {
			other := base()
			switch leaf := leaves(reflect.ValueOf(&other).Elem())[i]; leaf.Kind() {
			case reflect.Bool:
				leaf.SetBool(!leaf.Bool())
			default:
				leaf.SetInt(leaf.Int() + 1<<32)
			}
			wantSame(t, fmt.Sprintf("the number %d is another one", i), base(), other, false)
			wantSame(t, fmt.Sprintf("the number %d is another one in both", i), other, other, true)
		}
	}
	// One number alone is not 0.
	none := api.Answer{Node: api.Node{Kids: []api.Handle{0}, Tasks: []api.Handle{0}}, Task: api.Task{Jobs: []api.Job{{}}}}
	for i := range leaves(reflect.ValueOf(none)) {
		other := api.Answer{Node: api.Node{Kids: []api.Handle{0}, Tasks: []api.Handle{0}}, Task: api.Task{Jobs: []api.Job{{}}}}
		switch leaf := leaves(reflect.ValueOf(&other).Elem())[i]; leaf.Kind() {
		case reflect.Bool:
			leaf.SetBool(true)
		default:
			leaf.SetInt(-1)
		}
		wantSame(t, fmt.Sprintf("the number %d is not 0", i), none, other, false)
	}
}

func TestSameLists(t *testing.T) {
	set := func(kids, tasks []api.Handle, jobs []api.Job) api.Answer {
		a := full()
		a.Node.Kids, a.Node.Tasks, a.Task.Jobs = kids, tasks, jobs
		return a
	}
	h, g := nodeAt(1, 1), taskAt(1, 1)
	j := api.Job{Length: 1}
	empty := set([]api.Handle{}, []api.Handle{}, []api.Job{})
	wantSame(t, "nil and of no elements", set(nil, nil, nil), empty, true)
	wantSame(t, "no elements, with room", set(make([]api.Handle, 0, 9), make([]api.Handle, 0, 9), make([]api.Job, 0, 9)), empty, true)
	wantSame(t, "room", set(append(make([]api.Handle, 0, 9), h), nil, nil), set([]api.Handle{h}, nil, nil), true)
	lists := [][]api.Handle{nil, {h}, {g}, {0}, {h, h}, {h, g}, {g, h}, {h, h, h}, {0, 0}}
	for i, a := range lists {
		for n, b := range lists {
			wantSame(t, fmt.Sprintf("kids %v, %v", a, b), set(a, nil, nil), set(b, nil, nil), i == n)
			wantSame(t, fmt.Sprintf("tasks %v, %v", a, b), set(nil, a, nil), set(nil, b, nil), i == n)
			if i != 0 || n != 0 {
				wantSame(t, fmt.Sprintf("kids %v, tasks %v", a, b), set(a, nil, nil), set(nil, b, nil), false)
			}
		}
	}
	jobs := [][]api.Job{nil, {j}, {{}}, {{Length: 1, Cap: 1}}, {j, j}, {j, {}}, {{}, j}, {j, j, j}}
	for i, a := range jobs {
		for n, b := range jobs {
			wantSame(t, fmt.Sprintf("jobs %v, %v", a, b), set(nil, nil, a), set(nil, nil, b), i == n)
		}
	}
}

// TestAnswersAreNew: what is answered can be changed, with its spare room, and nothing else is by that; no argument is changed.
func TestAnswersAreNew(t *testing.T) {
	x := rich(t)
	questions := []api.Op{{Kind: node, At: x.a}, {Kind: node, At: x.full}, {Kind: node, At: rootHandle}, {Kind: show, At: x.full, Task: x.work}}
	fence := filled(-77)
	room := append(slices.Clone(questions), fence, fence)
	l := room[:len(questions)]
	before := stateOf(x.k)
	for range 2 {
		answers, err := All(x.k, l)
		wantNumber(t, "All", err, 0)
		again, _ := All(x.k, l)
		kept := fmt.Sprint(again)
		spoilt := 0
		for _, a := range answers[:cap(answers)] {
			for _, handles := range [][]api.Handle{a.Node.Kids, a.Node.Tasks} {
				handles = handles[:cap(handles)]
				spoilt += len(handles)
				for i := range handles {
					handles[i] = -7
				}
			}
			jobs := a.Task.Jobs[:cap(a.Task.Jobs)]
			spoilt += len(jobs)
			for i := range jobs {
				jobs[i] = api.Job{Length: -7}
			}
		}
		if spoilt == 0 || fmt.Sprint(again) != kept || stateOf(x.k) != before {
			t.Fatalf("answers share memory: %v, not %s", again, kept)
		}
		if third, _ := All(x.k, l); fmt.Sprint(third) != kept {
			t.Fatalf("it is answered otherwise now: %v, not %s", third, kept)
		}
	}
	if !slices.Equal(l, questions) || room[len(l)] != fence || room[len(l)+1] != fence {
		t.Errorf("the list of operations is changed: %v", room)
	}
	a, b := full(), full()
	Same(a, b)
	Tell(filled(node), a)
	Tell(filled(show), a)
	if !reflect.DeepEqual(a, full()) || !reflect.DeepEqual(b, full()) {
		t.Error("an answer that was handed in is changed")
	}
	// A list that was handed in, and is changed behind the call, changes nothing that was done.
	answers, _ := All(x.k, l)
	kept := fmt.Sprint(answers)
	clear(room)
	if fmt.Sprint(answers) != kept || stateOf(x.k) != before {
		t.Error("the list of operations was kept")
	}
}

// TestErrorsArePlain: the errors that a call answers are the numbers themselves.
func TestErrorsArePlain(t *testing.T) {
	_, long := Read(strings.Repeat("x", mostRead+1))
	_, form := Read("x")
	_, many := All(kernel.New(), make([]api.Op, mostLines+1))
	for err, number := range map[error]api.Errno{Valid(api.Op{}): api.ErrArg, Valid(api.Op{Kind: ticks}): api.ErrRange, long: api.ErrLong, form: api.ErrForm} {
		if e, ok := err.(api.Errno); !ok || e != number {
			t.Errorf("%v, not %v itself", err, number)
		}
		for other := range errorNames {
			if errors.Is(err, api.Errno(other)) != (api.Errno(other) == number) {
				t.Errorf("%v: is it %d?", err, other)
			}
		}
	}
	if many != api.ErrLong {
		t.Errorf("All: %v", many)
	}
}
