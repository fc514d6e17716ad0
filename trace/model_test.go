package trace

import (
	"fmt"
	"math"
	"math/rand"
	"regexp"
	"slices"
	"strconv"
	"testing"

	"tithe/api"
	"tithe/kernel"
)

// What the document writes: a handle is kind * kindFactor + slot * slotFactor + generation; the limits that marks and traces meet.
const (
	kindFactor = 1099511627776
	slotFactor = 1048576
	mostSlot   = 65535
	lastGen    = 1023
	mostTicks  = 1073741824
	mostBurst  = 4096
	mostKept   = 4096
)

// The kinds, by their numbers in the document.
const (
	given = 1 + iota
	lent
	idle
	free
	end
	switched
	gone
	done
	cut
)

// kindWords are chapter 19's, by the kinds' numbers.
var kindWords = []string{"", "given", "lent", "idle", "free", "end", "switch", "gone", "done", "cut"}

// rootHandle is the root's, as chapter 9 says it.
const rootHandle = api.Handle(kindFactor + 1)

// nodeAt, taskAt and slackAt are handles as chapter 2 says them.
func nodeAt(slot, gen int) api.Handle  { return api.Handle(kindFactor + slot*slotFactor + gen) }
func taskAt(slot, gen int) api.Handle  { return api.Handle(2*kindFactor + slot*slotFactor + gen) }
func slackAt(slot, gen int) api.Handle { return api.Handle(3*kindFactor + slot*slotFactor + gen) }

// goodHandles are 0 and handles that may be, at the ends of their parts too; badHandles are such that may not.
var (
	goodHandles = []api.Handle{
		0, rootHandle, nodeAt(1, 1), nodeAt(10, 20), nodeAt(mostSlot, lastGen), nodeAt(0, lastGen), nodeAt(mostSlot, 1),
		taskAt(0, 1), taskAt(7, 9), taskAt(mostSlot, lastGen), slackAt(0, 1), slackAt(15, 100), slackAt(mostSlot, lastGen),
	}
	badHandles = []api.Handle{
		-1, 1, 5, lastGen, slotFactor + 1, -rootHandle, kindFactor, kindFactor - 1, nodeAt(0, 0), nodeAt(0, lastGen+1), nodeAt(mostSlot+1, 1),
		taskAt(3, 0), slackAt(1, lastGen+1), 4*kindFactor + 1, math.MinInt, math.MaxInt,
	}
)

// goodTimes are numbers from 0 to MaxTicks; badTimes are others.
var (
	goodTimes = []int{0, 1, 2, 9, 10, 11, 99, 100, mostBurst, 1 << 20, 999999999, mostTicks - 1, mostTicks}
	badTimes  = []int{-1, -2, -10, mostTicks + 1, -mostTicks, 1<<32 + 1, 1 << 32, -1 << 32, math.MinInt, math.MinInt + 1, math.MaxInt - 1, math.MaxInt}
)

// badKinds are numbers that are no kinds.
var badKinds = []int{0, 10, 11, -1, -9, 256 + 1, 1<<32 + 1, 1 << 32, math.MinInt, math.MaxInt}

// isHandle tells whether a handle may be, by its parts.
func isHandle(h api.Handle) bool {
	kind, slot, gen := int(h)/kindFactor, int(h)%kindFactor/slotFactor, int(h)%slotFactor
	return h > 0 && 1 <= kind && kind <= 3 && slot <= mostSlot && 1 <= gen && gen <= lastGen
}

// isMark tells whether a mark may be.
func isMark(m api.Mark) bool {
	for _, n := range []int{m.Tick, m.N} {
		if n < 0 || n > mostTicks {
			return false
		}
	}
	for _, h := range []api.Handle{m.Node, m.Task} {
		if h != 0 && !isHandle(h) {
			return false
		}
	}
	return 0 < m.Kind && m.Kind < len(kindWords)
}

// told is a handle that may be, or 0, as text.
func told(h api.Handle) string {
	if h == 0 {
		return "-"
	}
	return fmt.Sprintf("%c%d.%d", "-nts"[int(h)/kindFactor], int(h)%kindFactor/slotFactor, int(h)%slotFactor)
}

// textOf is what Text must answer.
func textOf(m api.Mark) string {
	if !isMark(m) {
		return ""
	}
	return fmt.Sprintf("%d %s %s %s %d", m.Tick, kindWords[m.Kind], told(m.Node), told(m.Task), m.N)
}

// digits and named are what a text must have at its places; form is that of a whole one.
const (
	digits = `(0|[1-9][0-9]*)`
	named  = `(?:-|([nts])` + digits + `\.([1-9][0-9]*))`
)

var form = regexp.MustCompile(`\A` + digits + ` ([a-z]+) ` + named + ` ` + named + ` ` + digits + `\z`)

// read is what Read must answer: the mark, and whether there is one.
func read(s string) (api.Mark, bool) {
	parts := form.FindStringSubmatch(s)
	if parts == nil {
		return api.Mark{}, false
	}
	var m api.Mark
	fine := true
	amount := func(text string, most int) int {
		n, err := strconv.ParseUint("0"+text, 10, 64)
		fine = fine && err == nil && n <= uint64(most)
		return int(n)
	}
	handle := func(l []string) api.Handle {
		if l[0] == "" {
			return 0
		}
		kind := map[string]int{"n": 1, "t": 2, "s": 3}[l[0]]
		return api.Handle(kind*kindFactor + amount(l[1], mostSlot)*slotFactor + amount(l[2], lastGen))
	}
	m.Tick, m.N = amount(parts[1], mostTicks), amount(parts[9], mostTicks)
	m.Kind = slices.Index(kindWords, parts[2])
	m.Node, m.Task = handle(parts[3:6]), handle(parts[6:9])
	if !fine || m.Kind < 1 {
		return api.Mark{}, false
	}
	return m, true
}

// model is a trace as the chapter says it: all that was ever added, and how many of that are kept.
type model struct {
	keep int
	all  []api.Mark
}

// add is what Add must do: whether it takes the marks.
func (m *model) add(l []api.Mark) bool {
	ahead := -1
	if len(m.all) > 0 {
		ahead = m.all[len(m.all)-1].Tick
	}
	for _, next := range l {
		if !isMark(next) || ahead > next.Tick {
			return false
		}
		ahead = next.Tick
	}
	m.all = append(m.all, l...)
	return true
}

// kept is what All must answer.
func (m *model) kept() ([]api.Mark, int) {
	went := max(0, len(m.all)-m.keep)
	return m.all[went:], went
}

// run is what Run must do with a kernel: how many ticks go well, and the error.
func (m *model) run(k *kernel.Kernel, n int) (int, error) {
	if n <= 0 || n > mostBurst {
		return 0, api.Errno(2)
	}
	for well := range n {
		marks, err := k.Tick()
		if err != nil {
			return well, err
		}
		if !m.add(marks) {
			return well, api.Errno(1)
		}
	}
	return n, nil
}

// made is a trace that New must make.
func made(t *testing.T, keep int) *Trace {
	t.Helper()
	x, err := New(keep)
	if err != nil || x == nil {
		t.Fatalf("New of %d: %v %v", keep, x, err)
	}
	return x
}

// wantNumber holds an error against a number; 0 stands for nil. It must be the number itself.
func wantNumber(t *testing.T, what string, err error, number int) {
	t.Helper()
	if number == 0 && err != nil || number != 0 && err != api.Errno(number) {
		t.Errorf("%s: %v, not %d", what, err, number)
	}
}

// wantKept holds what All answers against marks, and how many went.
func wantKept(t *testing.T, what string, x *Trace, marks []api.Mark, went int) {
	t.Helper()
	if got, n := x.All(); !slices.Equal(got, marks) || n != went {
		t.Fatalf("%s: %v are kept, %d went; not %v, %d", what, got, n, marks, went)
	}
}

// wantModel holds what All answers against a model.
func wantModel(t *testing.T, what string, x *Trace, m *model) {
	t.Helper()
	marks, went := m.kept()
	wantKept(t, what, x, marks, went)
}

// add lays marks into a trace, which must take them.
func add(t *testing.T, x *Trace, l ...api.Mark) {
	t.Helper()
	if err := x.Add(l); err != nil {
		t.Fatalf("Add of %v: %v", l, err)
	}
}

// mark is one with something in every field.
func mark(tick int) api.Mark {
	return api.Mark{Tick: tick, Kind: done, Node: nodeAt(1, 1), Task: taskAt(0, 1), N: 2}
}

// row is marks with so many Ticks, rising from one on; each with an N of its own.
func row(from, length int) []api.Mark {
	l := make([]api.Mark, length)
	for place := range l {
		l[place] = api.Mark{Tick: from + place, Kind: 1 + place%9, Node: nodeAt(place%5, 1), N: place}
	}
	return l
}

// atTicks is marks with these Ticks.
func atTicks(ticks ...int) []api.Mark {
	var l []api.Mark
	for place, tick := range ticks {
		l = append(l, api.Mark{Tick: tick, Kind: end, N: place})
	}
	return l
}

// with is a row of marks with one more at a place.
func with(l []api.Mark, place int, m api.Mark) []api.Mark {
	return slices.Insert(slices.Clone(l), place, m)
}

// stateOf is all that there is to tell of a kernel.
func stateOf(k *kernel.Kernel) string { return fmt.Sprint(k.State()) }

// late is a kernel with the root alone, that has had so many ticks, all of them idle.
func late(t *testing.T, now int) *kernel.Kernel {
	t.Helper()
	s := kernel.New().State()
	s.Now, s.Idle = now, now
	s.Nodes[0].Clock, s.Nodes[0].Acc = now, api.Account{Given: now, Own: now}
	k, err := kernel.Load(s)
	if err != nil {
		t.Fatal(err)
	}
	return k
}

// worked is a kernel with nodes, one below another, tasks and jobs, such that its ticks make marks of every kind; and its nodes.
func worked(t *testing.T) (*kernel.Kernel, []api.Handle) {
	t.Helper()
	k := kernel.New()
	fine := func(err error) {
		t.Helper()
		if err != nil {
			t.Fatal(err)
		}
	}
	create := func(parent api.Handle, q, p int) api.Handle {
		t.Helper()
		h, err := k.Create(parent, api.Reserve{Q: q, P: p})
		fine(err)
		return h
	}
	work := func(h api.Handle, prio int, jobs ...api.Job) {
		t.Helper()
		task, err := k.Task(h, prio)
		fine(err)
		for _, j := range jobs {
			fine(k.Job(h, task, j))
		}
	}
	a, b, c := create(k.Root(), 1, 2), create(k.Root(), 1, 4), create(k.Root(), 1, 8)
	d := create(a, 2, 3)
	e := create(d, 1, 2)
	work(a, 3, api.Job{Length: 2, Due: 3}, api.Job{Length: 9, Cap: 2})
	work(d, 0, api.Job{Length: 1}, api.Job{Length: 40, Cap: 3, Due: 7})
	work(d, 7, api.Job{Length: 30})
	work(b, 1, api.Job{Length: 2})
	work(0, 5, api.Job{Length: 3, Due: 2}, api.Job{Length: 50, Cap: 2})
	work(0, 5, api.Job{Length: 4})
	fine(k.Resize(b, api.Reserve{Q: 1, P: 5}))
	fine(k.Resize(e, api.Reserve{Q: 1, P: 3}))
	fine(k.Delete(c))
	return k, []api.Handle{k.Root(), a, b, c, d, e}
}

// ticked is the marks of so many ticks of a kernel, all of which must go well.
func ticked(t *testing.T, k *kernel.Kernel, n int) []api.Mark {
	t.Helper()
	var l []api.Mark
	for range n {
		marks, err := k.Tick()
		if err != nil {
			t.Fatal(err)
		}
		l = append(l, marks...)
	}
	return l
}

// oneOf is one of a list, by chance.
func oneOf[T any](r *rand.Rand, l []T) T { return l[r.Intn(len(l))] }
