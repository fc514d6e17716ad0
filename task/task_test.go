package task

import (
	"fmt"
	"math"
	"math/big"
	"math/rand"
	"slices"
	"sort"
	"strings"
	"testing"

	"tithe/api"
)

// What the document writes: the greatest priority, how many jobs may wait, the greatest length, the greatest time.
const (
	mostPrio  = 31
	mostJobs  = 8
	longest   = 1048576
	mostTicks = 1073741824
)

// edges are numbers at which something might change, wrong ones among them.
var edges = []int{
	math.MinInt, math.MinInt + 1, -1 << 32, -mostTicks, -longest, -2, -1, 0, 1, 2, 7, 8, 9, 30, 31, 32, 33,
	longest - 1, longest, longest + 1, 2 * longest, mostTicks - 1, mostTicks, mostTicks + 1, 2 * mostTicks, 1 << 32, 1<<32 + 1, math.MaxInt - 1, math.MaxInt,
}

// fence stands in the spare room of lists that are handed in.
var fence = api.Job{Length: -77, Cap: -78, At: -79, Due: -80}

// The chapter's words, with its numbers written out.
func within(n, low, high int) bool { return !(n < low) && !(n > high) }
func mayWait(j api.Job) bool {
	return within(j.Length, 1, longest) && within(j.Cap, 0, longest) && within(j.At, 0, mostTicks) && within(j.Due, 0, mostTicks)
}

// mayCount tells whether an account may be a task's, be the sum of Done and Cut an int or not.
func mayCount(a api.Account) bool {
	number := func(n int) *big.Int { return big.NewInt(int64(n)) }
	ended := number(a.Done)
	ended.Add(ended, number(a.Cut))
	counted := a.Done > -1 && a.Cut > -1 && a.Late > -1 && ended.Cmp(number(a.Given)) < 1 && ended.Cmp(number(a.Late)) > -1
	return within(a.Given, 0, mostTicks) && a.Own == a.Given && a.Lent == 0 && counted
}

// may tells whether a task may be.
func may(task api.Task) bool {
	wrong := slices.ContainsFunc(task.Jobs, func(j api.Job) bool { return !mayWait(j) })
	return within(task.Prio, 0, mostPrio) && len(task.Jobs) < mostJobs+1 && !wrong && mayCount(task.Acc)
}

// wantPush is what Push is to answer.
func wantPush(task api.Task, job api.Job, now int) (api.Task, error) {
	came := api.Job{Length: job.Length, Cap: job.Cap, At: now, Due: job.Due}
	switch {
	case !may(task):
		return api.Task{}, api.ErrState
	case !within(now, 0, mostTicks):
		return api.Task{}, api.ErrArg
	case !mayWait(came):
		return api.Task{}, api.ErrRange
	case len(task.Jobs) == mostJobs:
		return api.Task{}, api.ErrFull
	}
	task.Jobs = append(slices.Clone(task.Jobs), came)
	return task, nil
}

// wantRun is what Run is to answer.
func wantRun(task api.Task, now int) (api.Task, int, int, error) {
	switch {
	case !may(task):
		return api.Task{}, 0, 0, api.ErrState
	case !within(now, 0, mostTicks-1):
		return api.Task{}, 0, 0, api.ErrArg
	case len(task.Jobs) == 0:
		return api.Task{}, 0, 0, api.ErrNone
	case task.Acc.Given == mostTicks:
		return api.Task{}, 0, 0, api.ErrTime
	}
	task.Jobs = slices.Clone(task.Jobs)
	job := &task.Jobs[0]
	task.Acc.Given, task.Acc.Own = task.Acc.Given+1, task.Acc.Own+1
	job.Length = job.Length - 1
	emptied := false
	if job.Cap > 0 {
		job.Cap = job.Cap - 1
		emptied = job.Cap == 0
	}
	what, late := 0, 0
	if job.Length == 0 {
		what = 1
		task.Acc.Done = task.Acc.Done + 1
	} else if emptied {
		what = 2
		task.Acc.Cut = task.Acc.Cut + 1
	}
	if what == 0 {
		return task, 0, 0, nil
	}
	if due := job.At + job.Due; job.Due != 0 && now+1 > due {
		late = now + 1 - due
		task.Acc.Late = task.Acc.Late + 1
	}
	task.Jobs = task.Jobs[1:]
	return task, what, late, nil
}

// wantPick is what Pick is to answer: the first of the places of those that are ready, in order of their priorities.
func wantPick(l []api.Task) int {
	var places []int
	for place, task := range l {
		if len(task.Jobs) != 0 {
			places = append(places, place)
		}
	}
	sort.SliceStable(places, func(i, j int) bool { return l[places[i]].Prio < l[places[j]].Prio })
	return append(places, -1)[0]
}

// wantTicks is how many ticks a job ends behind.
func wantTicks(job api.Job) int {
	if job.Cap > 0 && job.Cap < job.Length {
		return job.Cap
	}
	return job.Length
}

// wantWork is what Work is to answer.
func wantWork(task api.Task) int {
	sum := 0
	for _, job := range task.Jobs {
		sum += wantTicks(job)
	}
	if !may(task) {
		return 0
	}
	return sum
}

// wantWait is what Wait is to answer.
func wantWait(task api.Task, now int) (int, bool) {
	var dues []int
	for _, job := range task.Jobs {
		if job.Due != 0 {
			dues = append(dues, job.At+job.Due)
		}
	}
	if len(dues) == 0 || !may(task) || !within(now, 0, mostTicks) {
		return 0, false
	}
	return slices.Min(dues) - now, true
}

// wantShow is what Show is to answer.
func wantShow(task api.Task) string {
	if !may(task) {
		return ""
	}
	text := fmt.Sprintf("prio %d given %d done %d cut %d late %d", task.Prio, task.Acc.Given, task.Acc.Done, task.Acc.Cut, task.Acc.Late)
	for _, job := range task.Jobs {
		said := fmt.Sprintf(" [%d cap %d at %d due %d]", job.Length, job.Cap, job.At, job.Due)
		said = strings.Replace(said, " cap 0 ", " ", 1)
		text += strings.Replace(said, " due 0]", "]", 1)
	}
	return text
}

// alike tells whether two tasks are equal in all, field by field.
func alike(a, b api.Task) bool {
	if len(a.Jobs) != len(b.Jobs) || a.Prio != b.Prio {
		return false
	}
	for i, job := range a.Jobs {
		if other := b.Jobs[i]; job.Length != other.Length || job.Cap != other.Cap || job.At != other.At || job.Due != other.Due {
			return false
		}
	}
	x, y := a.Acc, b.Acc
	return x.Given == y.Given && x.Own == y.Own && x.Lent == y.Lent && x.Done == y.Done && x.Cut == y.Cut && x.Late == y.Late
}

// copied is a task with a list of jobs of its own.
func copied(task api.Task) api.Task {
	task.Jobs = slices.Clone(task.Jobs)
	return task
}

// fenced is a task like another one, with a fence in the spare room of its jobs.
func fenced(task api.Task) api.Task {
	n := len(task.Jobs)
	if n == 0 {
		task.Jobs = []api.Job{fence, fence}[:0]
		return task
	}
	task.Jobs = append(slices.Clone(task.Jobs), fence, fence)[:n]
	return task
}

// checkFenced tells whether a fenced task is what it was, its spare room too.
func checkFenced(t *testing.T, call string, task, was api.Task) {
	t.Helper()
	n := len(was.Jobs)
	if !alike(task, was) || slices.ContainsFunc(task.Jobs[n:n+2], func(j api.Job) bool { return j != fence }) {
		t.Fatalf("%s changed what it was given: %v to %v, then %v", call, was, task, task.Jobs[n:n+2])
	}
}

// spoil changes a task's jobs, their spare room too.
func spoil(task api.Task) {
	l := task.Jobs[:cap(task.Jobs)]
	for i := range l {
		l[i] = api.Job{Length: -1, Cap: -2, At: -3, Due: -4}
	}
}

// checkTask holds a task that was answered, and its error, against what they are to be, and against the task that was handed in, with which it is to share nothing.
func checkTask(t *testing.T, call string, given, was, got, want api.Task, err, wantErr error) {
	t.Helper()
	if !alike(got, want) || err != wantErr {
		t.Fatalf("%s of %v: %v, %v; want %v, %v", call, was, got, err, want, wantErr)
	}
	if !may(got) {
		t.Fatalf("%s of %v: %v, which may not be", call, was, got)
	}
	checkFenced(t, call, given, was)
	spoil(got)
	checkFenced(t, call+", when its answer was changed,", given, was)
}

// push is the task behind Push, held against the chapter's words.
func push(t *testing.T, task api.Task, job api.Job, now int) (api.Task, error) {
	t.Helper()
	given := fenced(task)
	got, err := Push(given, job, now)
	answer := copied(got)
	want, wantErr := wantPush(task, job, now)
	checkTask(t, fmt.Sprintf("Push(.., %v, %d)", job, now), given, task, got, want, err, wantErr)
	return answer, err
}

// run is what Run answers, held against the chapter's words.
func run(t *testing.T, task api.Task, now int) (api.Task, int, int, error) {
	t.Helper()
	given := fenced(task)
	got, what, late, err := Run(given, now)
	answer := copied(got)
	want, wantWhat, wantLate, wantErr := wantRun(task, now)
	if what != wantWhat || late != wantLate {
		t.Fatalf("Run(%v, %d): %d, %d late; want %d, %d", task, now, what, late, wantWhat, wantLate)
	}
	checkTask(t, fmt.Sprintf("Run(.., %d)", now), given, task, got, want, err, wantErr)
	return answer, what, late, err
}

// checkAsks holds against the chapter's words what is asked of one task: it is not changed by that.
func checkAsks(t *testing.T, task api.Task, now int) {
	t.Helper()
	given := fenced(task)
	var wantErr error
	if !may(task) {
		wantErr = api.ErrState
	}
	if err := Valid(given); err != wantErr {
		t.Fatalf("Valid(%v): %v; want %v", task, err, wantErr)
	}
	if got := Ready(given); got != (len(task.Jobs) > 0) {
		t.Fatalf("Ready(%v) = %v", task, got)
	}
	if got, want := Work(given), wantWork(task); got != want {
		t.Fatalf("Work(%v) = %d; want %d", task, got, want)
	}
	ahead, there := Wait(given, now)
	if wantAhead, wantThere := wantWait(task, now); ahead != wantAhead || there != wantThere {
		t.Fatalf("Wait(%v, %d) = %d, %v; want %d, %v", task, now, ahead, there, wantAhead, wantThere)
	}
	if got, want := Show(given), wantShow(task); got != want {
		t.Fatalf("Show(%v) = %q; want %q", task, got, want)
	}
	if !Same(given, copied(task)) || !Same(copied(task), given) {
		t.Fatalf("%v is not the same as its copy", task)
	}
	if got, want := Pick([]api.Task{given}), wantPick([]api.Task{task}); got != want {
		t.Fatalf("Pick of %v alone: %d; want %d", task, got, want)
	}
	checkFenced(t, "a question", given, task)
	checkDrop(t, task)
}

// checkDrop holds Drop against the chapter's words.
func checkDrop(t *testing.T, task api.Task) {
	t.Helper()
	given := fenced(task)
	got, many := Drop(given)
	if want := (api.Task{Prio: task.Prio, Acc: task.Acc}); !alike(got, want) || many != len(task.Jobs) {
		t.Fatalf("Drop(%v) = %v, %d", task, got, many)
	}
	spoil(got)
	_ = append(got.Jobs, api.Job{Length: 1}, api.Job{Length: 2})
	checkFenced(t, "Drop", given, task)
}

// checkAll holds all calls of one task against the chapter's words.
func checkAll(t *testing.T, task api.Task, job api.Job, now int) {
	t.Helper()
	checkAsks(t, task, now)
	push(t, task, job, now)
	run(t, task, now)
}

// busy is a task that may be, with three jobs, and an account of which each field that can be above 0 is.
func busy() api.Task {
	return api.Task{
		Prio: 5,
		Jobs: []api.Job{{Length: 3, Cap: 2, At: 10, Due: 5}, {Length: 4, Cap: 0, At: 11, Due: 0}, {Length: 2, Cap: 7, At: 12, Due: 9}},
		Acc:  api.Account{Given: 20, Own: 20, Done: 4, Cut: 3, Late: 2},
	}
}

// with is a task with so many jobs, each of another length.
func with(many int) api.Task {
	task := api.Task{Prio: 1}
	for i := range many {
		task.Jobs = append(task.Jobs, api.Job{Length: i + 1, At: i})
	}
	return task
}

// ticked is a task with one job, that was given so many ticks.
func ticked(ticks int) api.Task {
	return api.Task{Prio: 2, Jobs: []api.Job{{Length: 9}}, Acc: api.Account{Given: ticks, Own: ticks}}
}

// change is something that is done to a task, with a name.
type change struct {
	name string
	do   func(*api.Task)
}

// wrongs are changes that make a task that may be one that may not.
func wrongs() []change {
	var l []change
	add := func(name string, n int, do func(*api.Task)) {
		l = append(l, change{fmt.Sprintf("%s %d", name, n), do})
	}
	great := []int{mostTicks + 1, 1 << 32, math.MaxInt - 1, math.MaxInt}
	for _, n := range append([]int{math.MinInt, -1 << 32, -mostTicks, -1}, great...) {
		add("prio", n, func(x *api.Task) { x.Prio = n })
		add("given", n, func(x *api.Task) { x.Acc.Given, x.Acc.Own = n, n })
		add("own", n, func(x *api.Task) { x.Acc.Own = n })
		add("lent", n, func(x *api.Task) { x.Acc.Lent = n })
		add("done", n, func(x *api.Task) { x.Acc.Done = n })
		add("cut", n, func(x *api.Task) { x.Acc.Cut = n })
		add("late", n, func(x *api.Task) { x.Acc.Late = n })
	}
	for _, n := range great {
		add("done and cut", n, func(x *api.Task) { x.Acc.Done, x.Acc.Cut = n, n })
		add("all three", n, func(x *api.Task) { x.Acc.Done, x.Acc.Cut, x.Acc.Late = n, n, n })
	}
	add("prio", 32, func(x *api.Task) { x.Prio = 32 })
	add("more own", 1, func(x *api.Task) { x.Acc.Own++ })
	add("less own", 1, func(x *api.Task) { x.Acc.Own-- })
	add("more given", 1, func(x *api.Task) { x.Acc.Given++ })
	add("less given", 1, func(x *api.Task) { x.Acc.Given-- })
	add("lent", 1, func(x *api.Task) { x.Acc.Lent = 1 })
	add("too many done", 1, func(x *api.Task) { x.Acc.Done = x.Acc.Given - x.Acc.Cut + 1 })
	add("too many cut", 1, func(x *api.Task) { x.Acc.Cut = x.Acc.Given - x.Acc.Done + 1 })
	add("too many late", 1, func(x *api.Task) { x.Acc.Late = x.Acc.Done + x.Acc.Cut + 1 })
	add("done and cut beyond the greatest int", 1, func(x *api.Task) { x.Acc.Done, x.Acc.Cut = math.MaxInt, 1 })
	add("done and cut beyond the greatest int", 2, func(x *api.Task) { x.Acc.Done, x.Acc.Cut = 1, math.MaxInt })
	add("done and cut beyond the greatest int", 3, func(x *api.Task) { x.Acc.Done, x.Acc.Cut = math.MaxInt, math.MaxInt })
	add("jobs", mostJobs+1, func(x *api.Task) { x.Jobs = with(mostJobs + 1).Jobs })
	add("jobs", 5000, func(x *api.Task) { x.Jobs = slices.Repeat(with(1).Jobs, 5000) })
	return append(l, wrongJobs()...)
}

// wrongJobs are changes that put a job that may not be among a task's jobs: at the first place, or at the last one.
func wrongJobs() []change {
	var l []change
	for _, job := range []api.Job{
		{}, {Length: 0, Cap: 1}, {Length: -1}, {Length: math.MinInt}, {Length: longest + 1}, {Length: math.MaxInt},
		{Length: 1, Cap: -1}, {Length: 1, Cap: math.MinInt}, {Length: 1, Cap: longest + 1}, {Length: 1, Cap: math.MaxInt},
		{Length: 1, At: -1}, {Length: 1, At: math.MinInt}, {Length: 1, At: mostTicks + 1}, {Length: 1, At: math.MaxInt},
		{Length: 1, Due: -1}, {Length: 1, Due: math.MinInt}, {Length: 1, Due: mostTicks + 1}, {Length: 1, Due: math.MaxInt},
		{Length: 1, At: math.MaxInt, Due: math.MaxInt}, {Length: 1, At: math.MinInt, Due: math.MinInt},
	} {
		l = append(l, change{fmt.Sprintf("job %v first", job), func(x *api.Task) { x.Jobs = append([]api.Job{job}, x.Jobs...) }})
		l = append(l, change{fmt.Sprintf("job %v last", job), func(x *api.Task) { x.Jobs = append(slices.Clip(x.Jobs), job) }})
	}
	return l
}

// TA1, TA2: the chapter's examples.
func TestExamples(t *testing.T) {
	for _, c := range []struct {
		job  api.Job
		at   int
		runs []int
		what []int
		late int
	}{
		{api.Job{Length: 3, Due: 5}, 10, []int{10, 11, 12}, []int{On, On, Done}, 0},
		{api.Job{Length: 3, Cap: 2, Due: 5}, 10, []int{10, 11}, []int{On, Cut}, 0},
		{api.Job{Length: 1, Due: 5}, 10, []int{20}, []int{Done}, 6},
	} {
		task, err := New(0)
		if err != nil {
			t.Fatalf("New(0): %v", err)
		}
		if task, err = Push(task, c.job, c.at); err != nil {
			t.Fatalf("Push(%v, %d): %v", c.job, c.at, err)
		}
		late := 0
		for i, now := range c.runs {
			var what int
			task, what, late, err = Run(task, now)
			if what != c.what[i] || err != nil || i < len(c.runs)-1 && late != 0 {
				t.Errorf("%v: Run at %d: %d, %d, %v", c.job, now, what, late, err)
			}
		}
		if late != c.late || Ready(task) {
			t.Errorf("%v: %d late; want %d; %v", c.job, late, c.late, task)
		}
	}
	if On != 0 || Done != 1 || Cut != 2 {
		t.Errorf("On, Done, Cut = %d, %d, %d", On, Done, Cut)
	}
}

// TA1: priorities from 0 to MaxPrio make a task without jobs, whose account is zero; others none.
func TestNew(t *testing.T) {
	for prio := -40; prio < 80; prio++ {
		checkNew(t, prio)
	}
	for _, prio := range edges {
		checkNew(t, prio)
	}
	for prio, want := range map[int]error{-1: api.ErrRange, 0: nil, 31: nil, 32: api.ErrRange, math.MinInt: api.ErrRange, math.MaxInt: api.ErrRange} {
		if _, err := New(prio); err != want {
			t.Errorf("New(%d): %v; want %v", prio, err, want)
		}
	}
}

// checkNew holds New against the chapter's words.
func checkNew(t *testing.T, prio int) {
	t.Helper()
	want, wantErr := api.Task{}, error(api.ErrRange)
	if within(prio, 0, 31) {
		want, wantErr = api.Task{Prio: prio}, nil
	}
	task, err := New(prio)
	if !alike(task, want) || err != wantErr {
		t.Errorf("New(%d) = %v, %v; want %v, %v", prio, task, err, want, wantErr)
	}
	if err == nil {
		checkAll(t, task, api.Job{Length: 1}, 0)
	}
}

// TA1: of what may be each field at its least and at its greatest.
func TestValid(t *testing.T) {
	most := api.Job{Length: longest, Cap: longest, At: mostTicks, Due: mostTicks}
	for _, task := range []api.Task{
		{}, {Prio: mostPrio}, busy(), with(0), with(1), with(mostJobs - 1), with(mostJobs), {Jobs: []api.Job{}},
		{Jobs: []api.Job{{Length: 1}}}, {Jobs: []api.Job{most}}, {Prio: mostPrio, Jobs: slices.Repeat([]api.Job{most}, mostJobs)},
		{Jobs: []api.Job{{Length: 1, Cap: 1, At: 1, Due: 1}}}, {Jobs: []api.Job{{Length: 1, Cap: longest}}}, {Jobs: []api.Job{{Length: longest, Cap: 1}}},
		ticked(0), ticked(1), ticked(mostTicks - 1), ticked(mostTicks),
		{Acc: api.Account{Given: 1, Own: 1, Done: 1, Late: 1}}, {Acc: api.Account{Given: 1, Own: 1, Cut: 1, Late: 1}},
		{Acc: api.Account{Given: 2, Own: 2, Done: 1, Cut: 1, Late: 2}},
		{Acc: api.Account{Given: mostTicks, Own: mostTicks, Done: mostTicks, Late: mostTicks}},
		{Acc: api.Account{Given: mostTicks, Own: mostTicks, Cut: mostTicks, Late: mostTicks}},
		{Acc: api.Account{Given: mostTicks, Own: mostTicks, Done: 1, Cut: mostTicks - 1, Late: mostTicks}},
	} {
		if err := Valid(task); err != nil {
			t.Errorf("Valid(%v): %v", task, err)
		}
		checkAll(t, task, most, 0)
	}
}

// TA1 to TA4: a task that may not be: each call that says what it answers then.
func TestWrongTask(t *testing.T) {
	job := api.Job{Length: 1, Due: 3}
	for _, start := range []api.Task{busy(), with(0), with(1)} {
		for _, c := range wrongs() {
			task := copied(start)
			c.do(&task)
			if alike(task, start) {
				t.Fatalf("%s changes nothing of %v", c.name, start)
			}
			if err := Valid(task); err != api.ErrState {
				t.Errorf("%s: Valid(%v): %v", c.name, task, err)
			}
			if got, err := Push(task, job, 5); !alike(got, api.Task{}) || err != api.ErrState {
				t.Errorf("%s: Push(%v): %v, %v", c.name, task, got, err)
			}
			if got, what, late, err := Run(task, 50); !alike(got, api.Task{}) || what != 0 || late != 0 || err != api.ErrState {
				t.Errorf("%s: Run(%v): %v, %d, %d, %v", c.name, task, got, what, late, err)
			}
			if n := Work(task); n != 0 {
				t.Errorf("%s: Work(%v) = %d", c.name, task, n)
			}
			if ahead, there := Wait(task, 5); ahead != 0 || there {
				t.Errorf("%s: Wait(%v, 5) = %d, %v", c.name, task, ahead, there)
			}
			if text := Show(task); text != "" {
				t.Errorf("%s: Show(%v) = %q", c.name, task, text)
			}
			for _, now := range []int{-1, 0, mostTicks, mostTicks + 1} {
				checkAll(t, task, job, now)
				checkAll(t, task, api.Job{}, now)
			}
		}
	}
}

// TA1: each small account, and those of the edges: its sums are looked at without being reckoned wrong.
func TestAccounts(t *testing.T) {
	check := func(a api.Account) {
		task := api.Task{Prio: 3, Jobs: []api.Job{{Length: 1, Due: 1}}, Acc: a}
		var want error
		if !mayCount(a) {
			want = api.ErrState
		}
		if err := Valid(task); err != want {
			t.Fatalf("Valid of %v: %v; want %v", a, err, want)
		}
		if _, _, _, err := Run(task, 7); (err == api.ErrState) != (want != nil) {
			t.Fatalf("Run of %v: %v", a, err)
		}
	}
	for n := range 7 * 7 * 7 * 7 * 7 * 7 {
		digit := func(place int) int { return n/place%7 - 2 }
		check(api.Account{Given: digit(1), Own: digit(7), Lent: digit(49), Done: digit(343), Cut: digit(2401), Late: digit(16807)})
	}
	numbers := []int{math.MinInt, math.MinInt + 1, -mostTicks, -1, 0, 1, mostTicks - 1, mostTicks, mostTicks + 1, math.MaxInt - mostTicks, math.MaxInt - 1, math.MaxInt}
	for _, given := range numbers {
		for _, done := range numbers {
			for _, cut := range numbers {
				for _, late := range numbers {
					check(api.Account{Given: given, Own: given, Done: done, Cut: cut, Late: late})
				}
			}
		}
		for _, own := range numbers {
			for _, lent := range numbers {
				check(api.Account{Given: given, Own: own, Lent: lent})
			}
		}
	}
}

// TA1: just eight jobs may wait, be they nil, empty or many; of all numbers of jobs.
func TestNumbersOfJobs(t *testing.T) {
	for many := range 20 {
		task := with(many)
		if err := Valid(task); (err == nil) != (many <= 8) {
			t.Errorf("Valid with %d jobs: %v", many, err)
		}
		_, err := push(t, task, api.Job{Length: 1}, 0)
		switch {
		case many < 8 && err != nil, many == 8 && err != api.ErrFull, many > 8 && err != api.ErrState:
			t.Errorf("Push with %d jobs: %v", many, err)
		}
		checkAsks(t, task, 3)
		run(t, task, 3)
	}
	for _, jobs := range [][]api.Job{nil, {}} {
		task := api.Task{Jobs: jobs}
		if err := Valid(task); err != nil || Ready(task) || Work(task) != 0 {
			t.Errorf("without jobs: %v, %v, %d", err, Ready(task), Work(task))
		}
		if got, err := Push(task, api.Job{Length: 1}, 4); !slices.Equal(got.Jobs, []api.Job{{Length: 1, At: 4}}) || err != nil {
			t.Errorf("Push at none: %v, %v", got, err)
		}
		checkAll(t, task, api.Job{Length: 1}, 4)
	}
}

// TA1: a job stands behind the others, its At is now, whatever it was; nothing else is changed.
func TestPush(t *testing.T) {
	task, err := Push(busy(), api.Job{Length: 6, Cap: 2, At: 99, Due: 8}, 70)
	want := busy()
	want.Jobs = append(want.Jobs, api.Job{Length: 6, Cap: 2, At: 70, Due: 8})
	if !alike(task, want) || err != nil {
		t.Errorf("Push = %v, %v", task, err)
	}
	for _, at := range edges {
		task, err := Push(busy(), api.Job{Length: 6, Cap: 2, At: at, Due: 8}, 70)
		if !alike(task, want) || err != nil {
			t.Errorf("Push of a job with the At %d: %v, %v", at, task, err)
		}
	}
	for _, task := range []api.Task{busy(), with(0), with(1), with(mostJobs - 1), with(mostJobs), ticked(mostTicks)} {
		for _, length := range edges {
			for _, limit := range edges {
				push(t, task, api.Job{Length: length, Cap: limit}, 0)
			}
			for _, now := range edges {
				for _, due := range edges {
					push(t, task, api.Job{Length: length, At: due, Due: due}, now)
				}
			}
		}
		for _, limit := range edges {
			for _, due := range edges {
				push(t, task, api.Job{Length: 1, Cap: limit, At: 3, Due: due}, mostTicks)
			}
		}
	}
}

// TA1: wrong inputs of Push: of two faults at once, and of more, the one that the rule names first.
func TestPushWrong(t *testing.T) {
	fine, wrong := api.Job{Length: 1}, busy()
	wrong.Acc.Lent = 1
	full := with(mostJobs)
	for _, c := range []struct {
		task api.Task
		job  api.Job
		now  int
		err  error
	}{
		{busy(), fine, -1, api.ErrArg},
		{busy(), fine, mostTicks + 1, api.ErrArg},
		{busy(), fine, math.MinInt, api.ErrArg},
		{busy(), fine, math.MaxInt, api.ErrArg},
		{busy(), fine, 0, nil},
		{busy(), fine, mostTicks - 1, nil},
		{busy(), fine, mostTicks, nil},
		{busy(), api.Job{}, 0, api.ErrRange},
		{busy(), api.Job{Length: -1}, 0, api.ErrRange},
		{busy(), api.Job{Length: longest}, 0, nil},
		{busy(), api.Job{Length: longest + 1}, 0, api.ErrRange},
		{busy(), api.Job{Length: 1, Cap: -1}, 0, api.ErrRange},
		{busy(), api.Job{Length: 1, Cap: longest}, 0, nil},
		{busy(), api.Job{Length: 1, Cap: longest + 1}, 0, api.ErrRange},
		{busy(), api.Job{Length: 1, Due: -1}, 0, api.ErrRange},
		{busy(), api.Job{Length: 1, Due: mostTicks}, mostTicks, nil},
		{busy(), api.Job{Length: 1, Due: mostTicks + 1}, 0, api.ErrRange},
		{full, fine, 0, api.ErrFull},
		{wrong, fine, 0, api.ErrState},
		// Two faults at once, and more.
		{wrong, fine, -1, api.ErrState},
		{wrong, api.Job{}, 0, api.ErrState},
		{wrong, api.Job{}, mostTicks + 1, api.ErrState},
		{with(mostJobs + 1), fine, 0, api.ErrState},
		{with(mostJobs + 1), api.Job{}, -1, api.ErrState},
		{busy(), api.Job{}, -1, api.ErrArg},
		{busy(), api.Job{Length: 1, Due: -1}, mostTicks + 1, api.ErrArg},
		{full, fine, -1, api.ErrArg},
		{full, api.Job{}, mostTicks + 1, api.ErrArg},
		{full, api.Job{}, 0, api.ErrRange},
		{full, api.Job{Length: 1, Cap: -1}, mostTicks, api.ErrRange},
	} {
		got, err := push(t, c.task, c.job, c.now)
		if err != c.err || err != nil && !alike(got, api.Task{}) {
			t.Errorf("Push(%v, %v, %d) = %v, %v; want %v", c.task, c.job, c.now, got, err, c.err)
		}
	}
}

// TA2: what becomes of a job in one tick: with a Cap and without, and how late it is, of a task at which another job waits.
func TestRun(t *testing.T) {
	next := api.Job{Length: 7, Cap: 6, At: 5, Due: 4}
	before := api.Account{Given: 50, Own: 50, Done: 6, Cut: 5, Late: 3}
	on, done, cut := before, before, before
	on.Given, on.Own = 51, 51
	done.Given, done.Own, done.Done = 51, 51, 7
	cut.Given, cut.Own, cut.Cut = 51, 51, 6
	lateDone, lateCut := done, cut
	lateDone.Late, lateCut.Late = 4, 4
	for _, c := range []struct {
		job        api.Job
		now        int
		what, late int
		acc        api.Account
		left       api.Job
	}{
		{api.Job{Length: 3}, 0, On, 0, on, api.Job{Length: 2}},
		{api.Job{Length: 3, Cap: 2, At: 9, Due: 1}, 500, On, 0, on, api.Job{Length: 2, Cap: 1, At: 9, Due: 1}},
		{api.Job{Length: 2, Cap: 2}, 0, On, 0, on, api.Job{Length: 1, Cap: 1}},
		{api.Job{Length: 2, Cap: 9}, 0, On, 0, on, api.Job{Length: 1, Cap: 8}},
		{api.Job{Length: longest, Cap: longest, At: mostTicks, Due: mostTicks}, mostTicks - 1, On, 0, on, api.Job{Length: longest - 1, Cap: longest - 1, At: mostTicks, Due: mostTicks}},
		// Done, without a Cap, with one above the Length, with one that ends at the same tick.
		{api.Job{Length: 1}, 0, Done, 0, done, api.Job{}},
		{api.Job{Length: 1, Cap: 0, At: 7}, mostTicks - 1, Done, 0, done, api.Job{}},
		{api.Job{Length: 1, Cap: 2}, 0, Done, 0, done, api.Job{}},
		{api.Job{Length: 1, Cap: longest}, 0, Done, 0, done, api.Job{}},
		{api.Job{Length: 1, Cap: 1}, 0, Done, 0, done, api.Job{}},
		{api.Job{Length: 2, Cap: 1}, 0, Cut, 0, cut, api.Job{}},
		{api.Job{Length: longest, Cap: 1}, 0, Cut, 0, cut, api.Job{}},
		// Late by none, by one, by many; a job that came at the tick itself, or behind it, is not.
		{api.Job{Length: 1, At: 10, Due: 5}, 13, Done, 0, done, api.Job{}},
		{api.Job{Length: 1, At: 10, Due: 5}, 14, Done, 0, done, api.Job{}},
		{api.Job{Length: 1, At: 10, Due: 5}, 15, Done, 1, lateDone, api.Job{}},
		{api.Job{Length: 1, Cap: 1, At: 10, Due: 5}, 15, Done, 1, lateDone, api.Job{}},
		{api.Job{Length: 1, At: 10, Due: 5}, 20, Done, 6, lateDone, api.Job{}},
		{api.Job{Length: 1, At: 0, Due: 1}, 0, Done, 0, done, api.Job{}},
		{api.Job{Length: 1, At: 0, Due: 1}, 1, Done, 1, lateDone, api.Job{}},
		{api.Job{Length: 1, At: 0, Due: 1}, mostTicks - 1, Done, mostTicks - 1, lateDone, api.Job{}},
		{api.Job{Length: 1, At: 0, Due: mostTicks}, mostTicks - 1, Done, 0, done, api.Job{}},
		{api.Job{Length: 1, At: 1, Due: mostTicks - 2}, mostTicks - 1, Done, 1, lateDone, api.Job{}},
		{api.Job{Length: 1, At: mostTicks, Due: 1}, 0, Done, 0, done, api.Job{}},
		{api.Job{Length: 1, At: mostTicks, Due: mostTicks}, mostTicks - 1, Done, 0, done, api.Job{}},
		{api.Job{Length: 1, At: 10, Due: 0}, 999, Done, 0, done, api.Job{}},
		{api.Job{Length: 5, Cap: 1, At: 10, Due: 5}, 14, Cut, 0, cut, api.Job{}},
		{api.Job{Length: 5, Cap: 1, At: 10, Due: 5}, 15, Cut, 1, lateCut, api.Job{}},
		{api.Job{Length: 5, Cap: 1, At: 10, Due: 5}, 99, Cut, 85, lateCut, api.Job{}},
		{api.Job{Length: 5, Cap: 1, At: 10, Due: 0}, 99, Cut, 0, cut, api.Job{}},
	} {
		task := api.Task{Prio: 9, Jobs: []api.Job{c.job, next}, Acc: before}
		want := api.Task{Prio: 9, Jobs: []api.Job{next}, Acc: c.acc}
		if c.what == On {
			want.Jobs = []api.Job{c.left, next}
		}
		got, what, late, err := run(t, task, c.now)
		if !alike(got, want) || what != c.what || late != c.late || err != nil {
			t.Errorf("Run of %v at %d: %v, %d, %d, %v; want %v, %d, %d", c.job, c.now, got, what, late, err, want, c.what, c.late)
		}
	}
}

// TA2: wrong inputs of Run: of two faults at once, and of more, the one that the rule names first.
func TestRunWrong(t *testing.T) {
	wrong, none, wrongNone := busy(), with(0), with(0)
	wrong.Prio, wrongNone.Prio = 32, -1
	spent := ticked(mostTicks)
	spentNone := ticked(mostTicks)
	spentNone.Jobs = nil
	for _, c := range []struct {
		task api.Task
		now  int
		err  error
	}{
		{busy(), -1, api.ErrArg},
		{busy(), math.MinInt, api.ErrArg},
		{busy(), 0, nil},
		{busy(), mostTicks - 1, nil},
		{busy(), mostTicks, api.ErrArg},
		{busy(), mostTicks + 1, api.ErrArg},
		{busy(), math.MaxInt, api.ErrArg},
		{none, 0, api.ErrNone},
		{none, mostTicks - 1, api.ErrNone},
		{ticked(mostTicks - 1), 0, nil},
		{ticked(mostTicks - 1), mostTicks - 1, nil},
		{spent, 0, api.ErrTime},
		{spent, mostTicks - 1, api.ErrTime},
		{ticked(mostTicks + 1), 0, api.ErrState},
		{wrong, 0, api.ErrState},
		// Two faults at once, and more.
		{wrong, -1, api.ErrState},
		{wrong, mostTicks, api.ErrState},
		{wrongNone, 0, api.ErrState},
		{wrongNone, mostTicks, api.ErrState},
		{none, -1, api.ErrArg},
		{none, mostTicks, api.ErrArg},
		{spent, -1, api.ErrArg},
		{spent, mostTicks, api.ErrArg},
		{spentNone, mostTicks, api.ErrArg},
		{spentNone, 0, api.ErrNone},
	} {
		got, what, late, err := run(t, c.task, c.now)
		if err != c.err || err != nil && (!alike(got, api.Task{}) || what != 0 || late != 0) {
			t.Errorf("Run(%v, %d) = %v, %d, %d, %v; want %v", c.task, c.now, got, what, late, err, c.err)
		}
	}
	task := ticked(mostTicks - 1)
	task, what, late, err := run(t, task, 0)
	if task.Acc.Given != mostTicks || task.Acc.Own != mostTicks || what != On || late != 0 || err != nil {
		t.Errorf("the last tick: %v, %d, %d, %v", task, what, late, err)
	}
	if _, _, _, err := run(t, task, 1); err != api.ErrTime {
		t.Errorf("one more tick: %v", err)
	}
}

// TA2: the first job alone is worked on, each small job at each small time.
func TestRunOfAll(t *testing.T) {
	for n := range 4 * 6 * 6 * 6 {
		job := api.Job{Length: 1 + n%4, Cap: n / 4 % 6, At: n / 24 % 6, Due: n / 144 % 6}
		for now := -1; now < 14; now++ {
			for _, rest := range [][]api.Job{nil, {{Length: 1, Cap: 1, At: 0, Due: 1}}, {{Length: 2}, {Length: 1}}} {
				task := api.Task{Jobs: append([]api.Job{job}, rest...), Acc: api.Account{Given: 2, Own: 2, Done: 1, Cut: 1, Late: 2}}
				checkAll(t, task, job, now)
			}
		}
	}
}

// TA2, TA4: a task is ready just if a job waits, whatever else is wrong with it.
func TestReady(t *testing.T) {
	for _, c := range []struct {
		task api.Task
		want bool
	}{
		{api.Task{}, false}, {api.Task{Jobs: []api.Job{}}, false}, {with(1), true}, {with(mostJobs), true}, {busy(), true},
		{with(mostJobs + 1), true}, {api.Task{Jobs: []api.Job{{}}}, true}, {api.Task{Prio: -1, Jobs: []api.Job{{Length: 1}}}, true},
		{api.Task{Prio: 32}, false}, {ticked(mostTicks), true}, {api.Task{Acc: api.Account{Given: 4}}, false},
	} {
		if got := Ready(c.task); got != c.want {
			t.Errorf("Ready(%v) = %v", c.task, got)
		}
	}
}

// TA3: Pick of none, of some that are not ready, of several with the same priority, of such as may not be.
func TestPick(t *testing.T) {
	idle := func(prio int) api.Task { return api.Task{Prio: prio} }
	ready := func(prio int) api.Task { return api.Task{Prio: prio, Jobs: []api.Job{{Length: 1}}} }
	wrong := func(prio int) api.Task {
		return api.Task{Prio: prio, Jobs: []api.Job{{Length: -1}}, Acc: api.Account{Lent: -5}}
	}
	for _, c := range []struct {
		list []api.Task
		want int
	}{
		{nil, -1},
		{[]api.Task{}, -1},
		{[]api.Task{idle(0)}, -1},
		{[]api.Task{idle(3), idle(1), {Jobs: []api.Job{}}}, -1},
		{[]api.Task{ready(31)}, 0},
		{[]api.Task{idle(0), ready(31)}, 1},
		{[]api.Task{ready(5), ready(3)}, 1},
		{[]api.Task{ready(3), ready(5)}, 0},
		{[]api.Task{idle(0), ready(4), ready(4), idle(1), ready(4)}, 1},
		{[]api.Task{ready(4), ready(2), idle(0), ready(2), ready(1), ready(1)}, 4},
		{[]api.Task{ready(0), ready(0), ready(0)}, 0},
		{[]api.Task{ready(1), wrong(0)}, 1},
		{[]api.Task{wrong(1), ready(1)}, 0},
		{[]api.Task{ready(0), wrong(-1), wrong(math.MinInt)}, 2},
		{[]api.Task{wrong(math.MaxInt)}, 0},
		{[]api.Task{wrong(math.MaxInt), wrong(math.MaxInt)}, 0},
		{[]api.Task{wrong(math.MaxInt), wrong(math.MaxInt - 1)}, 1},
		{[]api.Task{wrong(math.MaxInt), wrong(math.MinInt)}, 1},
		{[]api.Task{wrong(math.MinInt), wrong(math.MaxInt)}, 0},
		{[]api.Task{idle(math.MinInt), wrong(32), with(mostJobs + 1)}, 2},
		{append(make([]api.Task, 5000), ready(31)), 5000},
	} {
		if got := Pick(c.list); got != c.want {
			t.Errorf("Pick(%v) = %d; want %d", c.list, got, c.want)
		}
		if got := wantPick(c.list); got != c.want {
			t.Errorf("the model's Pick(%v) = %d; want %d", c.list, got, c.want)
		}
	}
	for n := range 7 * 7 * 7 * 7 * 7 {
		var l []api.Task
		for rest := n; rest > 0; rest /= 7 {
			l = append(l, []api.Task{idle(0), idle(1), ready(0), ready(1), ready(2), wrong(-1), wrong(1)}[rest%7])
		}
		given := slices.Clone(l)
		if got, want := Pick(given), wantPick(l); got != want {
			t.Fatalf("Pick(%v) = %d; want %d", l, got, want)
		}
		if !slices.EqualFunc(given, l, alike) {
			t.Fatalf("Pick changed %v to %v", l, given)
		}
	}
}

// TA3: Work of jobs with a Cap and without.
func TestWork(t *testing.T) {
	for _, c := range []struct {
		jobs []api.Job
		want int
	}{
		{nil, 0},
		{[]api.Job{}, 0},
		{[]api.Job{{Length: 1}}, 1},
		{[]api.Job{{Length: 5}}, 5},
		{[]api.Job{{Length: 5, Cap: 3}}, 3},
		{[]api.Job{{Length: 5, Cap: 4}}, 4},
		{[]api.Job{{Length: 5, Cap: 5}}, 5},
		{[]api.Job{{Length: 5, Cap: 6}}, 5},
		{[]api.Job{{Length: 5, Cap: longest}}, 5},
		{[]api.Job{{Length: longest, Cap: 1}}, 1},
		{[]api.Job{{Length: 5, Cap: 3}, {Length: 2}, {Length: 1, Cap: 9, Due: 3}}, 6},
		{slices.Repeat([]api.Job{{Length: longest}}, 8), 8 * longest},
		{slices.Repeat([]api.Job{{Length: longest}}, 9), 0},
		{[]api.Job{{Length: 5}, {Length: 0}}, 0},
	} {
		if got := Work(api.Task{Jobs: c.jobs}); got != c.want {
			t.Errorf("Work(%v) = %d; want %d", c.jobs, got, c.want)
		}
	}
}

// TA3: Wait of jobs with a Due and without, ahead of what is due, at it and behind it.
func TestWait(t *testing.T) {
	for _, c := range []struct {
		jobs  []api.Job
		now   int
		ahead int
		there bool
	}{
		{nil, 0, 0, false},
		{[]api.Job{}, 5, 0, false},
		{[]api.Job{{Length: 1, At: 10}}, 5, 0, false},
		{[]api.Job{{Length: 1, At: 10, Due: 5}}, 0, 15, true},
		{[]api.Job{{Length: 1, At: 10, Due: 5}}, 12, 3, true},
		{[]api.Job{{Length: 1, At: 10, Due: 5}}, 14, 1, true},
		{[]api.Job{{Length: 1, At: 10, Due: 5}}, 15, 0, true},
		{[]api.Job{{Length: 1, At: 10, Due: 5}}, 16, -1, true},
		{[]api.Job{{Length: 1, At: 10, Due: 5}}, mostTicks, 15 - mostTicks, true},
		{[]api.Job{{Length: 1, At: 10, Due: 5}}, -1, 0, false},
		{[]api.Job{{Length: 1, At: 10, Due: 5}}, mostTicks + 1, 0, false},
		{[]api.Job{{Length: 1, At: 10, Due: 5}}, math.MinInt, 0, false},
		{[]api.Job{{Length: 1, At: 10, Due: 5}}, math.MaxInt, 0, false},
		{[]api.Job{{Length: 1, At: 0, Due: 1}}, 0, 1, true},
		{[]api.Job{{Length: 1, At: mostTicks, Due: mostTicks}}, 0, 2 * mostTicks, true},
		{[]api.Job{{Length: 1, At: mostTicks, Due: mostTicks}}, mostTicks, mostTicks, true},
		// The earliest one is not the first job, nor the one that came first, nor the one with the least Due.
		{[]api.Job{{Length: 1, At: 0}, {Length: 1, At: 3, Due: 30}, {Length: 1, At: 5, Due: 9}, {Length: 1, At: 9, Due: 6}, {Length: 1, At: 9}}, 4, 10, true},
		{[]api.Job{{Length: 1, At: 3, Due: 9}, {Length: 1, At: 4, Due: 9}}, 100, -88, true},
		{[]api.Job{{Length: 1, At: 4, Due: 9}, {Length: 1, At: 3, Due: 9}}, 100, -88, true},
		{[]api.Job{{Length: 1}, {Length: 1, At: 4, Due: 9}, {Length: 1}}, 13, 0, true},
		{slices.Repeat([]api.Job{{Length: 1, At: 1, Due: 1}}, 8), 0, 2, true},
		{slices.Repeat([]api.Job{{Length: 1, At: 1, Due: 1}}, 9), 0, 0, false},
		{[]api.Job{{Length: 1, At: 1, Due: 1}, {Length: 1, At: -1}}, 0, 0, false},
	} {
		task := api.Task{Jobs: c.jobs}
		if ahead, there := Wait(task, c.now); ahead != c.ahead || there != c.there {
			t.Errorf("Wait(%v, %d) = %d, %v; want %d, %v", c.jobs, c.now, ahead, there, c.ahead, c.there)
		}
		checkAsks(t, task, c.now)
	}
}

// TA4: Drop takes the jobs alone, also of a task that may not be, and tells how many they were.
func TestDrop(t *testing.T) {
	for many := range 12 {
		task := with(many)
		task.Acc = busy().Acc
		got, n := Drop(task)
		if n != many || len(got.Jobs) != 0 || got.Prio != 1 || got.Acc != busy().Acc {
			t.Errorf("Drop with %d jobs: %v, %d", many, got, n)
		}
		checkDrop(t, task)
		if again, none := Drop(got); !alike(again, got) || none != 0 {
			t.Errorf("Drop of that: %v, %d", again, none)
		}
		if may(task) {
			checkAll(t, got, api.Job{Length: 1}, 3)
		}
	}
}

// differing are tasks that each differ from busy in one thing alone, and from one another.
func differing() []api.Task {
	numbers := []func(*api.Task) *int{
		func(x *api.Task) *int { return &x.Prio },
		func(x *api.Task) *int { return &x.Acc.Given }, func(x *api.Task) *int { return &x.Acc.Own }, func(x *api.Task) *int { return &x.Acc.Lent },
		func(x *api.Task) *int { return &x.Acc.Done }, func(x *api.Task) *int { return &x.Acc.Cut }, func(x *api.Task) *int { return &x.Acc.Late },
	}
	for place := range 3 {
		numbers = append(numbers,
			func(x *api.Task) *int { return &x.Jobs[place].Length }, func(x *api.Task) *int { return &x.Jobs[place].Cap },
			func(x *api.Task) *int { return &x.Jobs[place].At }, func(x *api.Task) *int { return &x.Jobs[place].Due },
		)
	}
	var l []api.Task
	for _, number := range numbers {
		for _, n := range []int{math.MinInt, -1, 1000, math.MaxInt} {
			task := busy()
			*number(&task) = n
			l = append(l, task)
		}
	}
	fewer, more, swapped, none := busy(), busy(), busy(), busy()
	fewer.Jobs = fewer.Jobs[:2]
	more.Jobs = append(more.Jobs, api.Job{})
	swapped.Jobs[0], swapped.Jobs[1] = swapped.Jobs[1], swapped.Jobs[0]
	none.Jobs = nil
	return append(l, fewer, more, swapped, none)
}

// TA4: Same of tasks that differ in one field alone, of such as may not be, of none: nil or not.
func TestSame(t *testing.T) {
	if !Same(busy(), busy()) {
		t.Error("a task is not the same as its like")
	}
	l := append(differing(), busy(), with(0), with(1), with(mostJobs), with(mostJobs+1), api.Task{})
	for i, a := range l {
		for j, b := range l {
			given, other := fenced(a), fenced(b)
			if got := Same(given, other); got != (i == j) {
				t.Errorf("Same(%v, %v) = %v", a, b, got)
			}
			checkFenced(t, "Same", given, a)
			checkFenced(t, "Same", other, b)
		}
	}
	bare, empty := busy(), busy()
	bare.Jobs, empty.Jobs = nil, []api.Job{}
	for _, a := range []api.Task{bare, empty} {
		for _, b := range []api.Task{bare, empty} {
			if !Same(a, b) {
				t.Errorf("no jobs are not no jobs: %#v, %#v", a, b)
			}
		}
		if Same(a, busy()) || Same(busy(), a) {
			t.Error("no jobs are three")
		}
	}
}

// TA4: Show with a Cap and a Due and without, of several jobs, of what may not be.
func TestShow(t *testing.T) {
	for _, c := range []struct {
		task api.Task
		want string
	}{
		{api.Task{}, "prio 0 given 0 done 0 cut 0 late 0"},
		{api.Task{Prio: 31, Jobs: []api.Job{}}, "prio 31 given 0 done 0 cut 0 late 0"},
		{busy(), "prio 5 given 20 done 4 cut 3 late 2 [3 cap 2 at 10 due 5] [4 at 11] [2 cap 7 at 12 due 9]"},
		{api.Task{Jobs: []api.Job{{Length: 3}}}, "prio 0 given 0 done 0 cut 0 late 0 [3 at 0]"},
		{api.Task{Jobs: []api.Job{{Length: 3, Cap: 1}}}, "prio 0 given 0 done 0 cut 0 late 0 [3 cap 1 at 0]"},
		{api.Task{Jobs: []api.Job{{Length: 3, Due: 1}}}, "prio 0 given 0 done 0 cut 0 late 0 [3 at 0 due 1]"},
		{api.Task{Jobs: []api.Job{{Length: 1, At: 1}, {Length: 2, At: 1}}}, "prio 0 given 0 done 0 cut 0 late 0 [1 at 1] [2 at 1]"},
		{
			api.Task{Jobs: []api.Job{{Length: longest, Cap: longest, At: mostTicks, Due: mostTicks}}, Acc: api.Account{Given: mostTicks, Own: mostTicks, Done: 1, Cut: mostTicks - 1, Late: mostTicks}},
			"prio 0 given 1073741824 done 1 cut 1073741823 late 1073741824 [1048576 cap 1048576 at 1073741824 due 1073741824]",
		},
		{api.Task{Prio: 32}, ""},
		{api.Task{Prio: -1}, ""},
		{api.Task{Jobs: []api.Job{{Length: 3}, {}}}, ""},
		{with(mostJobs + 1), ""},
		{api.Task{Acc: api.Account{Given: 1}}, ""},
		{api.Task{Acc: api.Account{Given: 1, Own: 1, Lent: 1}}, ""},
	} {
		if got := Show(c.task); got != c.want {
			t.Errorf("Show(%v) = %q; want %q", c.task, got, c.want)
		}
		if got := wantShow(c.task); got != c.want {
			t.Errorf("the model's Show(%v) = %q; want %q", c.task, got, c.want)
		}
	}
}

// TA4: what differs is told apart by Show, if it may be.
func TestShowTellsApart(t *testing.T) {
	seen := map[string]api.Task{}
	for n := range 4 * 3 * 3 * 3 * 2 {
		job := api.Job{Length: 1 + n%4, Cap: n / 4 % 3, At: n / 12 % 3, Due: n / 36 % 3}
		task := api.Task{Jobs: slices.Repeat([]api.Job{job}, 1+n/108)}
		text := Show(task)
		if other, there := seen[text]; there || text == "" {
			t.Errorf("Show(%v) = %q = Show(%v)", task, text, other)
		}
		seen[text] = task
	}
}

// TA5: jobs end in the order in which they came, each behind just so many Runs as the lesser one of Length and Cap, done just if its Length is not above its Cap, or that is 0; Work is the number of Runs behind which nothing waits.
func TestJobsEndInOrder(t *testing.T) {
	chance := rand.New(rand.NewSource(12))
	for range 400 {
		task, _ := New(chance.Intn(32))
		var jobs []api.Job
		sum := 0
		for range chance.Intn(9) {
			job := api.Job{Length: 1 + chance.Intn(6), Cap: chance.Intn(8), Due: chance.Intn(3)}
			task, _ = push(t, task, job, len(jobs))
			jobs = append(jobs, job)
			sum += wantTicks(job)
		}
		if n := Work(task); n != sum {
			t.Fatalf("Work(%v) = %d; want %d", task, n, sum)
		}
		now := chance.Intn(30)
		done, cut := 0, 0
		for place, job := range jobs {
			for tick := 1; tick <= wantTicks(job); tick++ {
				var what int
				task, what, _, _ = run(t, task, now)
				now, sum = now+1, sum-1
				ends := tick == wantTicks(job)
				if (what != On) != ends || len(task.Jobs) != len(jobs)-place && !ends || Work(task) != sum {
					t.Fatalf("tick %d of %v: %d; left: %v", tick, job, what, task)
				}
				if ends && (what == Done) != (job.Cap == 0 || job.Length <= job.Cap) {
					t.Fatalf("%v ended as %d", job, what)
				}
				done, cut = done+btoi(what == Done), cut+btoi(what == Cut)
			}
		}
		if Ready(task) || sum != 0 || task.Acc.Done != done || task.Acc.Cut != cut || done+cut != len(jobs) {
			t.Fatalf("at the end: %v; %d done, %d cut of %v", task, done, cut, jobs)
		}
	}
}

// btoi is 1 of true.
func btoi(is bool) int {
	if is {
		return 1
	}
	return 0
}

// TA5: a task is worked down from its greatest job on: the longest job ends behind so many Runs as it is long.
func TestLongest(t *testing.T) {
	for _, c := range []struct {
		job  api.Job
		runs int
		what int
	}{
		{api.Job{Length: longest}, longest, Done},
		{api.Job{Length: longest, Cap: longest}, longest, Done},
		{api.Job{Length: longest, Cap: longest - 1}, longest - 1, Cut},
		{api.Job{Length: longest - 1, Cap: longest}, longest - 1, Done},
	} {
		task, err := Push(api.Task{}, c.job, 0)
		for now := range c.runs {
			var what, late int
			task, what, late, err = Run(task, now)
			if err != nil || late != 0 || (what != On) != (now == c.runs-1) || what != On && what != c.what {
				t.Fatalf("%v at %d: %d, %d, %v", c.job, now, what, late, err)
			}
		}
		if Ready(task) || task.Acc.Given != c.runs || task.Acc.Own != c.runs {
			t.Errorf("%v: %v", c.job, task)
		}
	}
}

// TA5: rows of calls by chance, held against plain reckoning: each job's ticks are counted, and the account is the sum of all that ended, and of the first.
func TestRows(t *testing.T) {
	for seed := range 150 {
		chance := rand.New(rand.NewSource(int64(seed)))
		task, _ := New(chance.Intn(32))
		now, spent, first := 0, 0, 0
		done, cut, lateJobs := 0, 0, 0
		for range 300 {
			switch chance.Intn(9) {
			case 0, 1:
				job := api.Job{Length: 1 + chance.Intn(5), Cap: chance.Intn(6), At: chance.Intn(9), Due: chance.Intn(12)}
				if next, err := push(t, task, job, now); err == nil {
					task = next
				}
			case 2:
				if chance.Intn(20) == 0 {
					task, _ = Drop(task)
					spent, first = spent+first, 0
				}
			case 3:
				push(t, task, api.Job{Length: edges[chance.Intn(len(edges))], Cap: edges[chance.Intn(len(edges))], Due: edges[chance.Intn(len(edges))]}, edges[chance.Intn(len(edges))])
				run(t, task, edges[chance.Intn(len(edges))])
			default:
				next, what, late, err := run(t, task, now)
				if err != nil {
					break
				}
				task, first = next, first+1
				if what != On {
					spent, first = spent+first, 0
				}
				done, cut, lateJobs = done+btoi(what == Done), cut+btoi(what == Cut), lateJobs+btoi(late > 0)
				now += 1 + chance.Intn(2)
			}
			checkAsks(t, task, now)
			if want := (api.Account{Given: spent + first, Own: spent + first, Done: done, Cut: cut, Late: lateJobs}); task.Acc != want || Valid(task) != nil {
				t.Fatalf("the account of %v; want %v", task, want)
			}
		}
	}
}

// TA5: tasks of the edges, by chance: whatever is handed in, each call answers what the chapter says, and what is answered may be.
func TestRowsOfEdges(t *testing.T) {
	chance := rand.New(rand.NewSource(5))
	pick := func(fine ...int) int {
		if chance.Intn(60) == 0 {
			return edges[chance.Intn(len(edges))]
		}
		return fine[chance.Intn(len(fine))]
	}
	fine := 0
	for range 40000 {
		task := api.Task{Prio: pick(0, 1, 30, 31)}
		for range chance.Intn(10) {
			task.Jobs = append(task.Jobs, api.Job{Length: pick(1, 2, 3, longest-1, longest), Cap: pick(0, 1, 2, longest), At: pick(0, 1, 9, mostTicks), Due: pick(0, 1, 8, mostTicks)})
		}
		ticks := pick(0, 1, 2, 6, mostTicks-1, mostTicks)
		task.Acc = api.Account{Given: ticks, Own: ticks, Done: pick(0, ticks/2), Cut: pick(0, ticks/3), Late: pick(0, ticks/3)}
		task.Acc.Own, task.Acc.Lent = pick(task.Acc.Own), pick(0)
		checkAll(t, task, api.Job{Length: pick(1, longest), Cap: pick(0, 1), At: pick(0), Due: pick(0, 1)}, pick(0, 1, 9, mostTicks-1, mostTicks))
		fine += btoi(may(task))
	}
	if fine < 4000 || fine > 36000 {
		t.Errorf("%d of the tasks may be: too few of one sort", fine)
	}
}

// Rule 3: what Push and Run answered may be changed by its caller, its spare room too: neither the task that was handed in nor another answer is changed by that.
func TestAnswersAreNew(t *testing.T) {
	for many := range mostJobs {
		start := fenced(with(many))
		was := copied(start)
		a, _ := Push(start, api.Job{Length: 4}, 5)
		b, _ := Push(start, api.Job{Length: 4}, 5)
		want := copied(b)
		_ = append(a.Jobs[:0], fence, fence, fence)
		spoil(a)
		if !alike(b, want) {
			t.Errorf("two answers of Push share memory: %v", b)
		}
		checkFenced(t, "Push", start, was)
		if many == 0 {
			continue
		}
		c, _, _, _ := Run(start, 3)
		d, _, _, _ := Run(start, 3)
		want = copied(d)
		_ = append(c.Jobs[:0], fence, fence, fence)
		spoil(c)
		spoil(b)
		if !alike(d, want) {
			t.Errorf("two answers of Run share memory: %v", d)
		}
		checkFenced(t, "Run", start, was)
	}
}

// Rule 3: what was handed in is not kept: an answer stays what it was when the argument is changed.
func TestArgumentsAreNotKept(t *testing.T) {
	start := busy()
	pushed, _ := Push(start, api.Job{Length: 1}, 20)
	ran, _, _, _ := Run(start, 20)
	dropped, _ := Drop(start)
	wantPushed, wantRan, wantDropped := copied(pushed), copied(ran), copied(dropped)
	spoil(start)
	if !alike(pushed, wantPushed) || !alike(ran, wantRan) || !alike(dropped, wantDropped) {
		t.Errorf("answers have gone with the argument: %v, %v, %v", pushed, ran, dropped)
	}
}

// P8: what a call answers hangs on its arguments alone, not on what was done before.
func TestNothingIsKept(t *testing.T) {
	task := busy()
	ask := func() string {
		pushed, pushErr := Push(task, api.Job{Length: 2, Due: 6}, 33)
		ran, what, late, runErr := Run(task, 33)
		ahead, there := Wait(task, 33)
		return fmt.Sprint(pushed, pushErr, ran, what, late, runErr, Work(task), ahead, there, Show(task), Pick([]api.Task{with(0), task}))
	}
	first := ask()
	for _, c := range wrongs() {
		other := busy()
		c.do(&other)
		Push(other, api.Job{Length: 1}, 0)
		Run(other, 0)
		Show(other)
	}
	other := busy()
	for now := range 20 {
		other, _, _, _ = Run(other, now)
	}
	if again := ask(); again != first {
		t.Errorf("%s; at first: %s", again, first)
	}
}

// P7, TA1 to TA5: whatever is handed in, each call answers as the chapter says. Each byte is a number, at an edge or small.
func FuzzCalls(f *testing.F) {
	f.Add("")
	f.Add("\x05\x14\x14\x00\x04\x03\x02\x0a\x03\x00\x0b\x05\x03\x02\x0a\x05")
	f.Add("\x00\x00\x00\x00\x00\x00\x00\x14\x01\x00\x00\x05\x01\x00\x0a\x05")
	f.Add("\x1f\x90\x90\x80\x91\x92\x93\x94\x95\x96\x97\x98\x99\x9a\x9b\x9c")
	f.Fuzz(func(t *testing.T, text string) {
		number := func() int {
			if text == "" {
				return 0
			}
			b := text[0]
			text = text[1:]
			if b < 128 {
				return int(b)
			}
			return edges[int(b-128)%len(edges)]
		}
		task := api.Task{Prio: number(), Acc: api.Account{Given: number(), Own: number(), Lent: number(), Done: number(), Cut: number(), Late: number()}}
		now := number()
		job := api.Job{Length: number(), Cap: number(), At: number(), Due: number()}
		for text != "" && len(task.Jobs) < 20 {
			task.Jobs = append(task.Jobs, api.Job{Length: number(), Cap: number(), At: number(), Due: number()})
		}
		checkAll(t, task, job, now)
	})
}
