package trace

import (
	"errors"
	"fmt"
	"math"
	"slices"
	"strings"
	"testing"

	"tithe/api"
	"tithe/fault"
	"tithe/kernel"
)

func TestExample(t *testing.T) {
	m := api.Mark{Tick: 3, Kind: api.MarkDone, Node: nodeAt(1, 1), Task: taskAt(0, 1), N: 2}
	if got := Text(m); got != "3 done n1.1 t0.1 2" {
		t.Errorf("Text: %q", got)
	}
	got, err := Read("3 done n1.1 t0.1 2")
	wantNumber(t, "Read", err, 0)
	if got != m {
		t.Errorf("Read: %v", got)
	}
}

// TestExampleOfWork is chapter 17's, and the document's first one: what a trace tells of four ticks.
func TestExampleOfWork(t *testing.T) {
	k := kernel.New()
	a, _ := k.Create(k.Root(), api.Reserve{Q: 1, P: 2})
	b, _ := k.Create(k.Root(), api.Reserve{Q: 1, P: 4})
	x := made(t, 100)
	if n, err := x.Run(k, 4); n != 4 || err != nil {
		t.Fatalf("Run: %d %v", n, err)
	}
	l, went := x.All()
	var texts []string
	for _, m := range l {
		texts = append(texts, Text(m))
	}
	expected := []string{
		"0 idle n1.1 - 0", "1 idle n2.1 - 0", "1 end n1.1 - 1", "2 idle n1.1 - 0", "3 free n0.1 - 0", "3 end n1.1 - 1", "3 end n2.1 - 1",
	}
	if !slices.Equal(texts, expected) || went != 0 {
		t.Errorf("All: %q, %d", texts, went)
	}
	if got := Periods(l, a); !slices.Equal(got, []int{1, 1}) {
		t.Errorf("the periods of a: %v", got)
	}
	if got := Periods(l, b); !slices.Equal(got, []int{1}) {
		t.Errorf("the periods of b: %v", got)
	}
	if got := Of(l, k.Root()); !slices.Equal(got, l[4:5]) {
		t.Errorf("the marks of the root: %v", got)
	}
}

func TestNew(t *testing.T) {
	for keep, number := range map[int]int{
		0: 1, 1: 0, 2: 0, 100: 0, mostKept - 1: 0, mostKept: 0, mostKept + 1: 1, -1: 1, -mostKept: 1, 1<<32 + 1: 1, -1<<32 + 1: 1,
		math.MinInt: 1, math.MinInt + 1: 1, math.MaxInt: 1, math.MaxInt - 1: 1,
	} {
		x, err := New(keep)
		wantNumber(t, fmt.Sprint("New of ", keep), err, number)
		if (x == nil) != (number != 0) {
			t.Errorf("New of %d: %v", keep, x)
		}
		if x != nil {
			wantKept(t, "a new trace", x, nil, 0)
		}
	}
}

// TestAddSoMany: of no marks, one, as many as are kept, one more, many more at once; as a first row, and behind another one.
func TestAddSoMany(t *testing.T) {
	for _, keep := range []int{1, 2, 3, 7, 64, mostKept - 1, mostKept} {
		for _, first := range []int{0, 1, keep - 1, keep, keep + 1, 2*keep + 1} {
			for _, length := range []int{0, 1, 2, keep - 1, keep, keep + 1, 2 * keep, 5*keep + 3} {
				x, all := made(t, keep), row(0, first+length)
				add(t, x, all[:first]...)
				went := max(0, first-keep)
				wantKept(t, "the first row", x, all[went:first], went)
				add(t, x, all[first:]...)
				went = max(0, first+length-keep)
				wantKept(t, fmt.Sprintf("%d, then %d, where %d are kept", first, length, keep), x, all[went:], went)
			}
		}
	}
}

// TestAddRows: rows one behind the other, of which the oldest go.
func TestAddRows(t *testing.T) {
	for keep := 1; keep <= 9; keep++ {
		for length := 1; length <= 2*keep+1; length++ {
			x, all := made(t, keep), row(5, 60)
			for at := 0; at < len(all); {
				next := min(len(all), at+length)
				add(t, x, all[at:next]...)
				add(t, x)
				at = next
				went := max(0, at-keep)
				wantKept(t, fmt.Sprintf("rows of %d, where %d are kept", length, keep), x, all[went:at], went)
			}
		}
	}
}

// TestAddOfMany: one row of very many marks, and very many rows of one: how many went is told still.
func TestAddOfMany(t *testing.T) {
	many := 40*mostKept + 17
	all := row(0, many)
	at, one := made(t, mostKept), made(t, 3)
	add(t, at, all...)
	wantKept(t, "at once", at, all[many-mostKept:], many-mostKept)
	for _, m := range all {
		add(t, one, m)
	}
	wantKept(t, "one by one", one, all[many-3:], many-3)
}

// taking tells whether Add takes a mark, in a new trace, and in the midst of a row behind another one; what is refused leaves All as it was.
func taking(t *testing.T, m api.Mark, takes bool) {
	t.Helper()
	number := 1
	if takes {
		number = 0
	}
	what := fmt.Sprintf("%v", m)
	x := made(t, 5)
	wantNumber(t, what, x.Add([]api.Mark{m}), number)
	if takes {
		wantKept(t, what, x, []api.Mark{m}, 0)
	} else {
		wantKept(t, what, x, nil, 0)
	}
	// The others have Ticks between which each one's fits that may be.
	for place := range 5 {
		x, before := made(t, 3), []api.Mark{mark(0), mark(0)}
		add(t, x, before...)
		l := []api.Mark{mark(mostTicks), mark(mostTicks), mark(mostTicks), mark(mostTicks)}
		for ahead := range place {
			l[ahead] = mark(0)
		}
		l = with(l, place, m)
		what := fmt.Sprintf("%v at %d", m, place)
		wantNumber(t, what, x.Add(l), number)
		if takes {
			wantKept(t, what, x, l[2:], 4)
		} else {
			wantKept(t, what, x, before, 0)
		}
	}
}

// TestAddOfEachField: Tick, Kind, Node, Task and N, at what may be, and at what may not.
func TestAddOfEachField(t *testing.T) {
	for _, kind := range []int{given, lent, idle, free, end, switched, gone, done, cut} {
		taking(t, api.Mark{Kind: kind}, true)
	}
	for _, kind := range badKinds {
		taking(t, api.Mark{Tick: 1, Kind: kind, Node: nodeAt(1, 1), Task: taskAt(1, 1), N: 1}, false)
	}
	for i, takes := range []bool{true, false} {
		for _, n := range [][]int{goodTimes, badTimes}[i] {
			m := mark(7)
			m.Tick = n
			taking(t, m, takes)
			m = mark(7)
			m.N = n
			taking(t, m, takes)
		}
		for _, h := range [][]api.Handle{goodHandles, badHandles}[i] {
			m := mark(7)
			m.Node = h
			taking(t, m, takes)
			m = mark(7)
			m.Task = h
			taking(t, m, takes)
		}
	}
	taking(t, api.Mark{}, false)
	taking(t, api.Mark{Tick: mostTicks, Kind: cut, Node: nodeAt(mostSlot, lastGen), Task: slackAt(mostSlot, lastGen), N: mostTicks}, true)
}

// TestAddOfEachKind: no kind asks for its own fields.
func TestAddOfEachKind(t *testing.T) {
	for kind := given; kind <= cut; kind++ {
		for _, h := range goodHandles {
			for _, n := range goodTimes {
				taking(t, api.Mark{Tick: 3, Kind: kind, Node: h, N: n}, true)
				taking(t, api.Mark{Tick: 3, Kind: kind, Node: nodeAt(1, 1), Task: h, N: n}, true)
			}
		}
	}
}

// TestAddInOrder: a Tick below that of the one ahead, in the row, or added earlier.
func TestAddInOrder(t *testing.T) {
	for _, x := range []struct {
		rows [][]int
		bad  int // the place of the row that is refused; -1: none
	}{
		{[][]int{{5, 5}}, -1},
		{[][]int{{5, 6}}, -1},
		{[][]int{{6, 5}}, 0},
		{[][]int{{1, 5, 9, 9, 8, 10}}, 0},
		{[][]int{{1, 5, 9, 4, 10}}, 0},
		{[][]int{{1, 0}}, 0},
		{[][]int{{mostTicks, mostTicks}}, -1},
		{[][]int{{mostTicks, mostTicks - 1}}, 0},
		{[][]int{{0, mostTicks}, {mostTicks}}, -1},
		{[][]int{{0, mostTicks}, {0}}, 1},
		{[][]int{{5}, {5}}, -1},
		{[][]int{{5}, {4}}, 1},
		{[][]int{{5}, {4, 7}}, 1},
		{[][]int{{5}, {7, 4}}, 1},
		{[][]int{{5}, {}, {4}}, 2},
		{[][]int{{5}, {}, {5}}, -1},
		{[][]int{{0}, {0}, {0}}, -1},
		{[][]int{{1, 2, 3, 4}, {3}}, 1},
		{[][]int{{1, 2, 3, 4}, {4, 4}}, -1},
		{[][]int{{1, 9}, {9, 9, 9, 9, 9}, {9}}, -1},
		{[][]int{{1, 9}, {9, 9, 9, 9, 9}, {8}}, 2},
	} {
		for keep := 1; keep <= 6; keep++ {
			trace, m := made(t, keep), model{keep: keep}
			for place, ticks := range x.rows {
				number := 0
				if place == x.bad {
					number = 1
				}
				what := fmt.Sprintf("%v, %d, where %d are kept", x.rows, place, keep)
				wantNumber(t, what, trace.Add(atTicks(ticks...)), number)
				if m.add(atTicks(ticks...)) != (number == 0) {
					t.Fatalf("%s: the model says otherwise", what)
				}
				wantModel(t, what, trace, &m)
			}
		}
	}
}

// TestAddBehindOnesThatWent: a Tick that is not below those that are kept, as all of lesser Ticks have gone, and one that is.
func TestAddBehindOnesThatWent(t *testing.T) {
	x := made(t, 2)
	add(t, x, atTicks(3, 5, 8, 13)...)
	for _, tick := range []int{0, 3, 4, 5, 7, 8, 12} {
		wantNumber(t, fmt.Sprint("one at ", tick), x.Add(atTicks(tick)), 1)
		wantNumber(t, fmt.Sprint("one at ", tick, " ahead of others"), x.Add(atTicks(tick, 13, 14)), 1)
		wantKept(t, "All", x, []api.Mark{{Tick: 8, Kind: end, N: 2}, {Tick: 13, Kind: end, N: 3}}, 2)
	}
	one := made(t, 1)
	add(t, one, atTicks(3, 5)...)
	wantNumber(t, "below the only one", one.Add(atTicks(4)), 1)
	add(t, one, atTicks(5)...)
	wantNumber(t, "below one of that Tick", one.Add(atTicks(4)), 1)
	wantKept(t, "All", one, []api.Mark{{Tick: 5, Kind: end}}, 2)
}

// TestAddBehindARefusal: a call that was refused counts for nothing.
func TestAddBehindARefusal(t *testing.T) {
	for _, refused := range [][]api.Mark{
		append(atTicks(9), api.Mark{Tick: 9}),
		atTicks(9, 20, 19),
		atTicks(4),
		atTicks(-1),
		append(atTicks(6, 7), mark(mostTicks+1)),
	} {
		x := made(t, 4)
		add(t, x, atTicks(5)...)
		wantNumber(t, fmt.Sprint(refused), x.Add(refused), 1)
		wantKept(t, fmt.Sprint(refused), x, atTicks(5), 0)
		wantNumber(t, "behind a refusal, one that is below", x.Add(atTicks(4)), 1)
		add(t, x, atTicks(5, 6)...)
		wantKept(t, "behind a refusal", x, []api.Mark{{Tick: 5, Kind: end}, {Tick: 5, Kind: end}, {Tick: 6, Kind: end, N: 1}}, 0)
	}
	// Of a new trace, too: any Tick may be the first one.
	x := made(t, 4)
	wantNumber(t, "a first one", x.Add(atTicks(9, 8)), 1)
	add(t, x, atTicks(0)...)
	wantKept(t, "behind a refusal", x, atTicks(0), 0)
}

// TestOneBadOne: a row with one bad mark in it, at each place, leaves a trace as it was that is full or not.
func TestOneBadOne(t *testing.T) {
	for _, before := range []int{0, 1, 3, 4, 9} {
		for place := range 8 {
			for _, bad := range []api.Mark{{}, {Tick: 200, Kind: 10}, {Tick: 200, Kind: end, N: -1}, {Tick: 200, Kind: end, Node: 5}, {Tick: 200, Kind: end, Task: -1}, {Tick: -1, Kind: end}} {
				x, l := made(t, 4), row(0, before)
				add(t, x, l...)
				went := max(0, before-4)
				wantNumber(t, fmt.Sprint(bad), x.Add(with(atTicks(200, 200, 200, 200, 200, 200, 200), place, bad)), 1)
				wantKept(t, fmt.Sprint(bad), x, l[went:], went)
			}
		}
	}
}

// TestAllAgain: All changes nothing, and each call answers lists of its own.
func TestAllAgain(t *testing.T) {
	x := made(t, 3)
	for at, m := range row(0, 12) {
		before, went := x.All()
		again, wentAgain := x.All()
		if !slices.Equal(before, again) || went != wentAgain || went != max(0, at-3) || len(before) != min(at, 3) {
			t.Fatalf("%d: %v %d, then %v %d", at, before, went, again, wentAgain)
		}
		spoil(before)
		wantKept(t, "what All answered is changed", x, again, went)
		spoil(again)
		add(t, x, m)
	}
	wantKept(t, "behind all", x, row(0, 12)[9:], 9)
}

// spoil lays other marks into a list, its spare room too.
func spoil(l []api.Mark) {
	l = l[:cap(l)]
	for place := range l {
		l[place] = api.Mark{Tick: -7, Kind: -7, Node: -7, Task: -7, N: -7}
	}
}

// TestArgumentsStay: what is given isn't changed, nor its spare room, and isn't kept.
func TestArgumentsStay(t *testing.T) {
	for keep := 1; keep <= 6; keep++ {
		for length := range 10 {
			x, all := made(t, keep), row(0, 20)
			kept := slices.Clone(all)
			add(t, x, all[:length]...)
			add(t, x, all[length:length+1]...)
			Of(all[:length], all[0].Node)
			Periods(all[:length], all[0].Node)
			if !slices.Equal(all, kept) {
				t.Fatalf("%d, %d: %v is %v now", keep, length, kept, all)
			}
			spoil(all[:length+1])
			went := max(0, length+1-keep)
			wantKept(t, "what was given is changed", x, kept[went:length+1], went)
			wantNumber(t, "what is refused", x.Add(all), 1)
			add(t, x, kept[length+1:]...)
			wantKept(t, "behind that", x, kept[20-min(keep, 20):], 20-keep)
		}
	}
}

// TestAddOfAll: what a trace answered can be given to it again, and to another one.
func TestAddOfAll(t *testing.T) {
	x, y := made(t, 5), made(t, 3)
	add(t, x, atTicks(4, 4, 4)...)
	l, _ := x.All()
	add(t, x, l...)
	add(t, y, l...)
	wantKept(t, "the first one", x, []api.Mark{l[1], l[2], l[0], l[1], l[2]}, 1)
	wantKept(t, "the other one", y, l, 0)
	add(t, x, atTicks(9)...)
	wantKept(t, "the other one", y, l, 0)
}

// TestTwoTraces: each has marks of its own.
func TestTwoTraces(t *testing.T) {
	x, y := made(t, 3), made(t, 3)
	add(t, x, atTicks(50, 51)...)
	add(t, y, atTicks(1)...)
	add(t, x, atTicks(60, 61)...)
	wantKept(t, "the one", y, atTicks(1), 0)
	wantNumber(t, "the other one", x.Add(atTicks(2)), 1)
}

func TestRunSoOften(t *testing.T) {
	for n, number := range map[int]int{
		0: 2, 1: 0, 2: 0, 9: 0, mostBurst - 1: 0, mostBurst: 0, mostBurst + 1: 2, -1: 2, -mostBurst: 2, 1<<32 + 1: 2, -1<<32 + 1: 2,
		math.MinInt: 2, math.MaxInt: 2,
	} {
		k, _ := worked(t)
		other, before := k.Clone(), stateOf(k)
		x := made(t, mostKept)
		went, err := x.Run(k, n)
		wantNumber(t, fmt.Sprint("Run ", n), err, number)
		if number != 0 {
			if went != 0 || stateOf(k) != before {
				t.Errorf("Run %d: %d ticks", n, went)
			}
			wantKept(t, "All", x, nil, 0)
			continue
		}
		l := ticked(t, other, n)
		if went != n || k.Now() != n || stateOf(k) != stateOf(other) {
			t.Errorf("Run %d: %d ticks, the kernel is %s, not %s", n, went, stateOf(k), stateOf(other))
		}
		gone := max(0, len(l)-mostKept)
		wantKept(t, fmt.Sprint("Run ", n), x, l[gone:], gone)
	}
}

// TestRunOfWork: of a kernel with nodes, tasks and jobs, run in parts, where few marks are kept and where many are; the operations between are seen.
func TestRunOfWork(t *testing.T) {
	for _, keep := range []int{1, 2, 5, 40, mostKept} {
		k, nodes := worked(t)
		other := k.Clone()
		x, m := made(t, keep), model{keep: keep}
		for _, n := range []int{1, 1, 3, 17, 100, 64} {
			went, err := x.Run(k, n)
			wantNumber(t, "Run", err, 0)
			if !m.add(ticked(t, other, n)) {
				t.Fatal("the kernel's marks may not be")
			}
			if went != n || stateOf(k) != stateOf(other) {
				t.Fatalf("Run %d: %d", n, went)
			}
			wantModel(t, fmt.Sprint("Run ", n), x, &m)
			for _, k := range []*kernel.Kernel{k, other} {
				if err := k.Resize(nodes[1], api.Reserve{Q: 1 + n%2, P: 4}); err != nil {
					t.Fatal(err)
				}
			}
		}
		kinds := make([]int, 10)
		for _, mark := range m.all {
			kinds[mark.Kind]++
		}
		if slices.Contains(kinds[1:], 0) {
			t.Errorf("so many marks of each kind came: %v", kinds[1:])
		}
	}
}

// TestRunToTheEnd: of a kernel whose Tick ends in an error, at once or on the way: so many ticks went well, and the error is the kernel's.
func TestRunToTheEnd(t *testing.T) {
	for room := range 5 {
		for _, n := range []int{1, 2, 3, 4, 5, mostBurst} {
			k := late(t, mostTicks-room)
			other := k.Clone()
			x := made(t, 10)
			add(t, x, mark(mostTicks-room))
			went, err := x.Run(k, n)
			if went != min(n, room) || k.Now() != mostTicks-room+went {
				t.Fatalf("Run %d, with room for %d: %d, behind that %d", n, room, went, k.Now())
			}
			expected := append([]api.Mark{mark(mostTicks - room)}, ticked(t, other, went)...)
			wantKept(t, "All", x, expected, 0)
			if stateOf(k) != stateOf(other) {
				t.Fatalf("Run %d: the kernel is %s, not %s", n, stateOf(k), stateOf(other))
			}
			if n <= room {
				wantNumber(t, "Run", err, 0)
				continue
			}
			var f *fault.Fault
			if !errors.As(err, &f) || err != error(f) || *f != (fault.Fault{Op: api.OpTick, Err: api.ErrTime}) {
				t.Fatalf("Run %d, with room for %d: %v", n, room, err)
			}
		}
	}
}

// TestRunRefused: of a trace whose last Tick is above the kernel's: the tick is done, its marks are not kept, the error is Add's.
func TestRunRefused(t *testing.T) {
	for _, last := range []int{1, 2, 7, mostTicks} {
		for _, n := range []int{1, 2, 3, mostBurst} {
			k, _ := worked(t)
			other := k.Clone()
			x := made(t, 3)
			add(t, x, mark(0), mark(last))
			went, err := x.Run(k, n)
			wantNumber(t, fmt.Sprint("Run ", n), err, 1)
			ticked(t, other, 1)
			if went != 0 || k.Now() != 1 || stateOf(k) != stateOf(other) {
				t.Fatalf("Run %d: %d, the kernel is %s, not %s", n, went, stateOf(k), stateOf(other))
			}
			wantKept(t, "All", x, []api.Mark{mark(0), mark(last)}, 0)
		}
	}
	// Where the kernel comes to that Tick, its marks are kept again.
	k := kernel.New()
	x := made(t, 3)
	add(t, x, mark(2))
	for at := range 2 {
		went, err := x.Run(k, 5)
		wantNumber(t, "Run", err, 1)
		if went != 0 || k.Now() != at+1 {
			t.Fatalf("Run at %d: %d, then %d", at, went, k.Now())
		}
	}
	went, err := x.Run(k, 5)
	wantNumber(t, "Run", err, 0)
	if went != 5 || k.Now() != 7 {
		t.Fatalf("Run at 2: %d, then %d", went, k.Now())
	}
	wantKept(t, "All", x, []api.Mark{{Tick: 4, Kind: free, Node: rootHandle}, {Tick: 5, Kind: free, Node: rootHandle}, {Tick: 6, Kind: free, Node: rootHandle}}, 3)
}

// TestRunOfMoreKernels: the marks of a kernel stand behind those of another one, as long as its ticks are not below them.
func TestRunOfMoreKernels(t *testing.T) {
	kernels := []*kernel.Kernel{late(t, 10), late(t, 12), late(t, 12)}
	x := made(t, 9)
	for _, step := range []struct{ kernel, n, went, number, now int }{
		{0, 3, 3, 0, 13}, {1, 2, 2, 0, 14}, {2, 4, 0, 1, 13}, {2, 1, 1, 0, 14}, {0, 2, 2, 0, 15}, {1, 1, 1, 0, 15},
	} {
		k := kernels[step.kernel]
		went, err := x.Run(k, step.n)
		wantNumber(t, fmt.Sprint(step), err, step.number)
		if went != step.went || k.Now() != step.now {
			t.Fatalf("%v: %d, then %d", step, went, k.Now())
		}
	}
	l, _ := x.All()
	var ticks []int
	for _, m := range l {
		ticks = append(ticks, m.Tick)
	}
	if !slices.Equal(ticks, []int{10, 11, 12, 12, 13, 13, 13, 14, 14}) {
		t.Errorf("the marks stand at %v", ticks)
	}
}

// TestRunOfNoKernel: none panics, and nothing is kept.
func TestRunOfNoKernel(t *testing.T) {
	for _, k := range []*kernel.Kernel{nil, {}} {
		for n, number := range map[int]int{0: 2, 1: 1, 5: 1, mostBurst: 1, mostBurst + 1: 2, -1: 2} {
			x := made(t, 3)
			add(t, x, mark(4))
			went, err := x.Run(k, n)
			wantNumber(t, fmt.Sprint("Run ", n), err, number)
			if went != 0 {
				t.Errorf("Run %d: %d", n, went)
			}
			wantKept(t, "All", x, []api.Mark{mark(4)}, 0)
		}
	}
}

// TestNoTrace: one that New has not made has room for no mark, and lets no kernel tick.
func TestNoTrace(t *testing.T) {
	refused, _ := New(0)
	for _, x := range []*Trace{nil, refused, {}} {
		for _, l := range [][]api.Mark{nil, atTicks(1), atTicks(1, 2, 3)} {
			wantNumber(t, fmt.Sprint("Add of ", l), x.Add(l), 1)
		}
		wantKept(t, "All", x, nil, 0)
		for n, number := range map[int]int{0: 2, 1: 1, mostBurst: 1, mostBurst + 1: 2} {
			k := kernel.New()
			went, err := x.Run(k, n)
			wantNumber(t, fmt.Sprint("Run ", n), err, number)
			if went != 0 || k.Now() != 0 {
				t.Errorf("Run %d: %d", n, went)
			}
		}
	}
}

// TestOfAndPeriods: of marks of several nodes, with each kind of mark, of node 0, of such as have none, and of marks that may not be.
func TestOfAndPeriods(t *testing.T) {
	a, b, none := nodeAt(1, 1), nodeAt(2, 1), nodeAt(1, 2)
	var l []api.Mark
	for _, m := range []struct {
		tick, kind int
		node, task api.Handle
		n          int
	}{
		{0, given, a, taskAt(0, 1), 9}, {0, end, b, 0, 3}, {1, end, a, 0, 5}, {1, end, 0, 0, 8}, {1, lent, b, slackAt(0, 1), 0},
		{2, idle, a, 0, 0}, {2, free, rootHandle, 0, 0}, {2, switched, a, 0, 7}, {3, end, a, 0, 0}, {3, end, a, 0, 0},
		{4, done, 0, slackAt(0, 1), 1}, {4, done, a, taskAt(0, 1), 2}, {5, cut, b, taskAt(0, 1), 0}, {5, end, a, b, mostTicks}, {6, gone, a, 0, 0},
		{7, end, b, a, 2}, {-1, end, -1, 0, -4}, {2, 0, a, 0, 1}, {9, 77, -1, 5, 6},
	} {
		l = append(l, api.Mark{Tick: m.tick, Kind: m.kind, Node: m.node, Task: m.task, N: m.n})
	}
	for _, x := range []struct {
		node    api.Handle
		of      []int
		periods []int
	}{
		{a, []int{0, 2, 5, 7, 8, 9, 11, 13, 14, 17}, []int{5, 0, 0, mostTicks}},
		{b, []int{1, 4, 12, 15}, []int{3, 2}},
		{0, []int{3, 10}, []int{8}},
		{rootHandle, []int{6}, nil},
		{-1, []int{16, 18}, []int{-4}},
		{none, nil, nil},
		{taskAt(0, 1), nil, nil},
		{slackAt(0, 1), nil, nil},
		{5, nil, nil},
		{math.MinInt, nil, nil},
	} {
		var expected []api.Mark
		for _, place := range x.of {
			expected = append(expected, l[place])
		}
		if got := Of(l, x.node); !slices.Equal(got, expected) {
			t.Errorf("Of %d: %v, not %v", x.node, got, expected)
		}
		if got := Periods(l, x.node); !slices.Equal(got, x.periods) {
			t.Errorf("Periods of %d: %v, not %v", x.node, got, x.periods)
		}
		if Of(nil, x.node) != nil || len(Of([]api.Mark{}, x.node)) > 0 || Periods(nil, x.node) != nil || len(Periods([]api.Mark{}, x.node)) > 0 {
			t.Errorf("%d has marks where there are none", x.node)
		}
	}
}

// TestOfEachKind: Of tells marks of each kind, Periods those of one alone.
func TestOfEachKind(t *testing.T) {
	for kind := -1; kind <= 12; kind++ {
		l := []api.Mark{{Tick: 1, Kind: kind, Node: rootHandle, N: 6}}
		if got := Of(l, rootHandle); !slices.Equal(got, l) {
			t.Errorf("Of kind %d: %v", kind, got)
		}
		var expected []int
		if kind == end {
			expected = []int{6}
		}
		if got := Periods(l, rootHandle); !slices.Equal(got, expected) {
			t.Errorf("Periods of kind %d: %v", kind, got)
		}
	}
}

// TestOfIsNew: what Of and Periods answer is memory of its own.
func TestOfIsNew(t *testing.T) {
	l := []api.Mark{mark(1), mark(2), {Tick: 3, Kind: end, Node: nodeAt(1, 1), N: 4}}
	kept := slices.Clone(l)
	one, other := Of(l, nodeAt(1, 1)), Of(l, nodeAt(1, 1))
	spoil(one)
	if !slices.Equal(l, kept) || !slices.Equal(other, kept) {
		t.Errorf("%v, and %v, are changed", l, other)
	}
	ends, again := Periods(l, nodeAt(1, 1)), Periods(l, nodeAt(1, 1))
	ends[0] = 9
	if again[0] != 4 || l[2].N != 4 {
		t.Errorf("%v, and %v, are changed", l, again)
	}
}

func TestTextOfEachKind(t *testing.T) {
	for kind, word := range kindWords {
		if kind == 0 {
			continue
		}
		for _, x := range []struct {
			m    api.Mark
			text string
		}{
			{api.Mark{Kind: kind}, "0 " + word + " - - 0"},
			{api.Mark{Tick: mostTicks, Kind: kind, N: mostTicks}, "1073741824 " + word + " - - 1073741824"},
			{api.Mark{Tick: 10, Kind: kind, Node: rootHandle}, "10 " + word + " n0.1 - 0"},
			{api.Mark{Tick: 7, Kind: kind, Task: slackAt(15, 1023), N: 1}, "7 " + word + " - s15.1023 1"},
			{api.Mark{Tick: 4, Kind: kind, Node: nodeAt(63, 20), Task: taskAt(7, 9), N: 100}, "4 " + word + " n63.20 t7.9 100"},
			{api.Mark{Tick: 4, Kind: kind, Node: slackAt(mostSlot, 1), Task: nodeAt(0, lastGen), N: 5}, "4 " + word + " s65535.1 n0.1023 5"},
		} {
			if got := Text(x.m); got != x.text {
				t.Errorf("%v: %q, not %q", x.m, got, x.text)
			}
			got, err := Read(x.text)
			wantNumber(t, x.text, err, 0)
			if got != x.m {
				t.Errorf("%q: %v, not %v", x.text, got, x.m)
			}
		}
	}
}

// TestTextOfEachField: each field at what may be, told and read; and at what may not, which has the empty text.
func TestTextOfEachField(t *testing.T) {
	check := func(m api.Mark, may bool) {
		t.Helper()
		text := Text(m)
		if text != textOf(m) || (text != "") != may {
			t.Errorf("%v: %q, not %q", m, text, textOf(m))
		}
		if !may {
			return
		}
		got, err := Read(text)
		wantNumber(t, text, err, 0)
		if got != m {
			t.Errorf("%q: %v, not %v", text, got, m)
		}
	}
	for kind := given; kind <= cut; kind++ {
		for i, may := range []bool{true, false} {
			for _, n := range [][]int{goodTimes, badTimes}[i] {
				check(api.Mark{Tick: n, Kind: kind, Node: nodeAt(2, 3)}, may)
				check(api.Mark{Kind: kind, Task: slackAt(2, 3), N: n}, may)
			}
			for _, h := range [][]api.Handle{goodHandles, badHandles}[i] {
				check(api.Mark{Tick: 4, Kind: kind, Node: h, N: 6}, may)
				check(api.Mark{Tick: 4, Kind: kind, Task: h, N: 6}, may)
				check(api.Mark{Tick: 4, Kind: kind, Node: h, Task: h, N: 6}, may)
			}
		}
	}
	for _, kind := range badKinds {
		check(api.Mark{Tick: 4, Kind: kind, Node: rootHandle, N: 6}, false)
	}
	check(api.Mark{}, false)
}

// TestReadOfOthers: texts that are nearly those of marks, and such that are not at all.
func TestReadOfOthers(t *testing.T) {
	texts := []string{
		"", " ", "    ", "3", "done", "3 done", "3 done n1.1", "3 done n1.1 t0.1", "done n1.1 t0.1 2", "3 n1.1 t0.1 2", "3 done t0.1 2",
		"3 done n1.1 t0.1 2 ", " 3 done n1.1 t0.1 2", "3  done n1.1 t0.1 2", "3 done  n1.1 t0.1 2", "3 done n1.1  t0.1 2", "3 done n1.1 t0.1  2",
		"3 done n1.1 t0.1 2 2", "3 done n1.1 t0.1 2 -", "3 done n1.1 t0.1 2 0", "3 3 done n1.1 t0.1 2", "3 done n1.1 t0.1 2\n", "3 done n1.1 t0.1 2\x00",
		"3\tdone n1.1 t0.1 2", "3 done\tn1.1 t0.1 2", "3 done n1.1\nt0.1 2", "3 done n1.1 t0.1\r2", "3\u00a0done n1.1 t0.1 2", "3,done,n1.1,t0.1,2", "3done n1.1 t0.1 2",
		"done 3 n1.1 t0.1 2", "3 n1.1 done t0.1 2", "3 done 2 n1.1 t0.1", "- done n1.1 t0.1 2", "3 done n1.1 t0.1 -", "3 - n1.1 t0.1 2",
	}
	for _, n := range []string{
		"", "+3", "-3", "-0", "+0", "03", "00", "3.", "3.0", "3e0", "0x3", "3_0", "1_000", "a", "٣", "\x33\xff", "1073741825", "2147483648", "4294967299",
		"9223372036854775807", "9223372036854775808", "18446744073709551616", "18446744073709551619", strings.Repeat("9", 100), strings.Repeat("0", 40) + "3", "-1", "-1073741824",
	} {
		texts = append(texts, n+" done n1.1 t0.1 2", "3 done n1.1 t0.1 "+n)
	}
	for _, kind := range []string{"", "Done", "DONE", "don", "donee", "8", "#8", "free.", "ended", "switched", "mark", "tick", "create", "job", "node", "none", "x", "doné", "given,", "0"} {
		texts = append(texts, "3 "+kind+" n1.1 t0.1 2")
	}
	for _, h := range []string{
		"", "--", "0", "#0", "#5", "n", "n1", "n1.", "n.1", "n1.0", "n1.1024", "n65536.1", "n01.1", "n1.01", "n1.1.", "n1.1.1", "n-1.1", "n+1.1", "n1.+1", "n1.-1",
		"N1.1", "m1.1", "1.1", "nn1.1", "n1,1", "1099512676353", "#1099512676353", "root", "n1.1x", "n" + strings.Repeat("0", 40) + "1.1", "n1.18446744073709551617", "n18446744073709551617.1",
	} {
		texts = append(texts, "3 done "+h+" t0.1 2", "3 done n1.1 "+h+" 2", "3 done "+h+" "+h+" 2")
	}
	for _, text := range texts {
		m, err := Read(text)
		wantNumber(t, fmt.Sprintf("%q", text), err, 4)
		if m != (api.Mark{}) {
			t.Errorf("%q: %v", text, m)
		}
		if _, is := read(text); is {
			t.Fatalf("%q: the model reads it", text)
		}
	}
}

// TestReadOfLongTexts: they end, and are none.
func TestReadOfLongTexts(t *testing.T) {
	const length = 1 << 22
	for _, text := range []string{
		strings.Repeat(" ", length), strings.Repeat("3", length), strings.Repeat("3 ", length), strings.Repeat("3 done n1.1 t0.1 2 ", length/20),
		strings.Repeat("0", length) + " done n1.1 t0.1 2", "3 " + strings.Repeat("done", length) + " n1.1 t0.1 2", "3 done n" + strings.Repeat("1", length) + ".1 t0.1 2",
		"3 done n1.1 t0.1 " + strings.Repeat("2", length), "3 done n1.1 t0.1 2" + strings.Repeat(" ", length), "3 done n1.1 t0.1 2 " + strings.Repeat("\xff", length),
	} {
		m, err := Read(text)
		wantNumber(t, fmt.Sprintf("%.30q, of %d bytes", text, len(text)), err, 4)
		if m != (api.Mark{}) {
			t.Errorf("%.30q: %v", text, m)
		}
	}
}
