package kernel

import (
	"fmt"
	"math"
	"math/rand"
	"reflect"
	"slices"
	"testing"

	"tithe/api"
	"tithe/budget"
)

// within tells whether a number is from one to another one.
func within(n, low, high int) bool { return n >= low && n <= high }

// mayBeTasks tells whether a part of a State may be, as chapters 3, 12, 13 and 14 say, and none of it ahead of now.
func mayBeTasks(l LeafState, many, now int) bool {
	if len(l.Gens) != many || len(l.Taken) != many {
		return false
	}
	taken := 0
	for slot, gen := range l.Gens {
		if l.Taken[slot] {
			taken++
		}
		if gen < 1 || gen > lastGen+1 || gen > lastGen && l.Taken[slot] {
			return false
		}
	}
	if len(l.Tasks) != taken {
		return false
	}
	for _, x := range l.Tasks {
		a := x.Acc
		if !within(x.Prio, 0, mostPrio) || len(x.Jobs) > mostJobs || !within(a.Given, 0, now) || a.Own != a.Given || a.Lent != 0 {
			return false
		}
		if !within(a.Done, 0, a.Given) || !within(a.Cut, 0, a.Given-a.Done) || !within(a.Late, 0, a.Done+a.Cut) {
			return false
		}
		for _, j := range x.Jobs {
			if !within(j.Length, 1, longest) || !within(j.Cap, 0, longest) || !within(j.At, 0, now) || !within(j.Due, 0, mostTicks) {
				return false
			}
		}
	}
	return true
}

// mayBeAccount tells whether an account may be, by the rules of KN6.
func mayBeAccount(a api.Account) bool {
	for _, n := range []int{a.Given, a.Own, a.Lent, a.Done, a.Cut, a.Late} {
		if !within(n, 0, mostTicks) {
			return false
		}
	}
	return a.Lent <= a.Own && a.Done+a.Cut <= a.Own-a.Lent && a.Late <= a.Done+a.Cut
}

// mayBeBudget tells whether a Budget may be, as chapter 7 says.
func mayBeBudget(b budget.Budget) bool {
	pending := b.Next == (api.Reserve{}) || canBe(b.Next) && b.Next != b.Now
	return canBe(b.Now) && pending && within(b.Left, 0, b.Now.Q) && within(b.Start, 0, mostTicks) && b.End == b.Start+b.Now.P
}

// inOrder tells whether nodes stand in the order of All: the root, then each child's part, by the children's slots.
func inOrder(l []NodeState) bool {
	var part func(h api.Handle) []api.Handle
	part = func(h api.Handle) []api.Handle {
		var kids []api.Handle
		for _, n := range l[1:] {
			if n.Parent == h {
				kids = append(kids, n.Handle)
			}
		}
		slices.Sort(kids)
		out := []api.Handle{h}
		for _, kid := range kids {
			out = append(out, part(kid)...)
		}
		return out
	}
	var handles []api.Handle
	for _, n := range l {
		handles = append(handles, n.Handle)
	}
	return slices.Equal(part(rootHandle), handles)
}

// mayBeTree tells whether a State's nodes may stand where they do, by the rules of KN6.
func mayBeTree(s State) bool {
	if len(s.Gens) != mostNodes || len(s.Nodes) == 0 || s.Nodes[0].Handle != rootHandle || s.Nodes[0].Parent != 0 {
		return false
	}
	depth := map[api.Handle]int{}
	taken := map[int]bool{}
	for i, n := range s.Nodes {
		slot := int(n.Handle-kindFactor) / slotFactor
		if n.Handle < kindFactor || slot >= mostNodes || taken[slot] || n.Handle != nodeAt(slot, s.Gens[slot]) || s.Gens[slot] > lastGen {
			return false
		}
		above, there := depth[n.Parent]
		if i > 0 && (!there || above == mostDepth) {
			return false
		}
		taken[slot], depth[n.Handle] = true, above+1
		if i == 0 {
			depth[n.Handle] = 0
		}
	}
	for _, gen := range s.Gens {
		if !within(gen, 1, lastGen+1) {
			return false
		}
	}
	return inOrder(s.Nodes)
}

// mayLoad tells whether Load is to take a State, by the rules of KN6.
func mayLoad(s State) bool {
	if !within(s.Now, 0, mostTicks) || !within(s.Idle, 0, s.Now) || !mayBeTree(s) {
		return false
	}
	at := map[api.Handle]NodeState{}
	reserved, given := map[api.Handle]int{}, map[api.Handle]int{}
	for i, n := range s.Nodes {
		at[n.Handle] = n
		if n.Acc.Given != n.Clock || !mayBeAccount(n.Acc) || !mayBeAccount(n.Closed) || n.Closed.Own != n.Closed.Given {
			return false
		}
		if i == 0 {
			if n.Budget != (budget.Budget{}) || n.Clock != s.Now || len(n.Leaf.Gens)+len(n.Leaf.Taken)+len(n.Leaf.Tasks) > 0 {
				return false
			}
			continue
		}
		clock := at[n.Parent].Clock
		if !mayBeBudget(n.Budget) || n.Budget.Start > clock || n.Budget.End <= clock || !mayBeTasks(n.Leaf, mostTasks, s.Now) {
			return false
		}
		reserved[n.Parent] += max(share(n.Budget.Now), share(n.Budget.Next))
		given[n.Parent] += n.Acc.Given
	}
	for _, n := range s.Nodes {
		if reserved[n.Handle] > whole || n.Acc.Given != n.Acc.Own+n.Closed.Given+given[n.Handle] {
			return false
		}
	}
	last := within(s.Last, -1, mostSlack-1)
	return last && mayBeTasks(s.Slack, mostSlack, s.Now) && (s.Last < 0 || s.Slack.Taken[s.Last] || s.Slack.Gens[s.Last] > 1)
}

// bases are States of kernels of several sorts.
func bases(t *testing.T) map[string]State {
	t.Helper()
	l := map[string]State{"new": New().State()}
	x := smallOf(t)
	l["small"] = x.k.State()
	x.wants("Resize", x.resize(x.b, api.Reserve{Q: 1, P: 3}), 0)
	x.wants("Delete", x.remove(x.c), 0)
	x.jobs(x.a, x.ta, api.Job{Length: 5, Cap: 3, Due: 1})
	x.jobs(0, x.s, api.Job{Length: 5, Cap: 3, Due: 1})
	x.tasks(0, 2)
	x.tasks(0, 2)
	l["pending and dying"] = x.k.State()
	x.ticks(17)
	l["later"] = x.k.State()
	p, row := deep(t, 1, 2)
	p.tasks(row[mostDepth], 3)
	p.ticks(300)
	l["deep"] = p.k.State()
	r := rand.New(rand.NewSource(5))
	p = made(t)
	p.stir(r, 700)
	l["stirred"] = p.k.State()
	l["at the end"] = atTheEnd(t, 1).k.State()
	end := atTheEnd(t, 1)
	end.ticks(1)
	l["over"] = end.k.State()
	return l
}

// verdict holds what Load says of a State against the rules; what it takes is that State, and goes on.
func verdict(t *testing.T, what string, s State) bool {
	t.Helper()
	k, err := Load(s)
	if !mayLoad(s) {
		if k != nil || err != error(api.ErrState) {
			t.Fatalf("%s: %v %v, not just ErrState: %v", what, k, err, s)
		}
		return false
	}
	if k == nil || err != nil {
		t.Fatalf("%s: %v %v: %v", what, k, err, s)
	}
	if !sameState(k.State(), s) {
		t.Fatalf("%s: %v is not %v", what, k.State(), s)
	}
	p := &pair{t, k, modelFrom(s)}
	p.check()
	for range 3 {
		p.tick()
	}
	p.check()
	return true
}

func TestLoadOfState(t *testing.T) {
	for what, s := range bases(t) {
		kept := plain(s)
		if !verdict(t, what, s) {
			t.Errorf("%s: refused", what)
		}
		if !sameState(s, kept) {
			t.Errorf("%s: Load changed what it was given", what)
		}
	}
}

// walk goes over all that a value is put together of, each with its name.
func walk(v reflect.Value, name string, do func(name string, v reflect.Value)) {
	do(name, v)
	switch v.Kind() {
	case reflect.Struct:
		for i := range v.NumField() {
			walk(v.Field(i), name+"."+v.Type().Field(i).Name, do)
		}
	case reflect.Slice:
		for i := range v.Len() {
			walk(v.Index(i), fmt.Sprintf("%s[%d]", name, i), do)
		}
	}
}

// spoilt are numbers that are put in the place of one.
func spoilt(n int) []int {
	l := []int{
		n - 1, n + 1, n - 2, n + 2, -n, n + 1<<32, n + math.MinInt, math.MinInt, math.MaxInt, -1, 0, 1, 2, 3, 7, 8, 9, 16, 31, 32, lastGen, lastGen + 1, lastGen + 2,
		longest, longest + 1, mostTicks - 1, mostTicks, mostTicks + 1, int(rootHandle), int(nodeAt(1, 1)), int(nodeAt(2, 1)), int(nodeAt(mostNodes, 1)),
		n + slotFactor, n - slotFactor, n + kindFactor, n - kindFactor,
	}
	slices.Sort(l)
	return slices.Compact(l)
}

// TestLoadOfEachNumberSpoilt: every single number and truth of a State, one at a time.
func TestLoadOfEachNumberSpoilt(t *testing.T) {
	for what, s := range bases(t) {
		takes, refuses := 0, 0
		count := func(name string) {
			if verdict(t, what+" "+name, s) {
				takes++
			} else {
				refuses++
			}
		}
		s = plain(s)
		walk(reflect.ValueOf(&s).Elem(), "State", func(name string, v reflect.Value) {
			switch v.Kind() {
			case reflect.Int:
				old := v.Int()
				for _, n := range spoilt(int(old)) {
					if n != int(old) {
						v.SetInt(int64(n))
						count(fmt.Sprintf("%s %d for %d", name, n, old))
					}
				}
				v.SetInt(old)
			case reflect.Bool:
				v.SetBool(!v.Bool())
				count(name + " turned")
				v.SetBool(!v.Bool())
			}
		})
		t.Logf("%s: %d taken, %d refused", what, takes, refuses)
		if takes == 0 || refuses == 0 {
			t.Errorf("%s: %d taken, %d refused", what, takes, refuses)
		}
	}
}

// TestLoadOfEachListSpoilt: every list of a State without an element, with one twice, with a zero one more, with two in the other order, with none, and each taken from another place.
func TestLoadOfEachListSpoilt(t *testing.T) {
	for what, s := range bases(t) {
		s = plain(s)
		walk(reflect.ValueOf(&s).Elem(), "State", func(name string, v reflect.Value) {
			if v.Kind() != reflect.Slice {
				return
			}
			old := reflect.AppendSlice(reflect.MakeSlice(v.Type(), 0, v.Len()), v)
			put := func(how string, l reflect.Value) {
				v.Set(l)
				verdict(t, what+" "+name+" "+how, s)
				v.Set(old)
			}
			put("none", reflect.Zero(v.Type()))
			put("empty", reflect.MakeSlice(v.Type(), 0, 3))
			put("one more", reflect.Append(old.Slice3(0, old.Len(), old.Len()), reflect.Zero(v.Type().Elem())))
			for i := range old.Len() {
				head, tail := old.Slice3(0, i, i), old.Slice(i+1, old.Len())
				put(fmt.Sprintf("without %d", i), reflect.AppendSlice(head, tail))
				put(fmt.Sprintf("%d twice", i), reflect.AppendSlice(reflect.Append(head, old.Index(i)), old.Slice(i, old.Len())))
				put(fmt.Sprintf("up to %d", i), head)
				for j := range i {
					l := reflect.AppendSlice(reflect.MakeSlice(v.Type(), 0, old.Len()), old)
					l.Index(i).Set(old.Index(j))
					l.Index(j).Set(old.Index(i))
					put(fmt.Sprintf("%d and %d turned", j, i), l)
				}
			}
		})
	}
}

// TestLoadOfSpoiltStates: each rule of KN6, broken in one way at least; these have to be refused, whatever a model says.
func TestLoadOfSpoiltStates(t *testing.T) {
	x := smallOf(t)
	x.wants("Resize", x.resize(x.b, api.Reserve{Q: 1, P: 3}), 0)
	x.jobs(x.a, x.ta, api.Job{Length: 5})
	for name, spoil := range map[string]func(s *State){
		"Now below 0":                    func(s *State) { s.Now = -1 },
		"Now above the root's clock":     func(s *State) { s.Now++ },
		"Now beyond MaxTicks":            func(s *State) { s.Now = mostTicks + 1 },
		"Idle below 0":                   func(s *State) { s.Idle = -1 },
		"Idle above Now":                 func(s *State) { s.Idle = s.Now + 1 },
		"no generations":                 func(s *State) { s.Gens = nil },
		"a generation less":              func(s *State) { s.Gens = s.Gens[:mostNodes-1] },
		"a generation more":              func(s *State) { s.Gens = append(s.Gens, 1) },
		"a generation of 0":              func(s *State) { s.Gens[40] = 0 },
		"a generation too high":          func(s *State) { s.Gens[40] = lastGen + 2 },
		"a generation of another handle": func(s *State) { s.Gens[2]++ },
		"the root's generation":          func(s *State) { s.Gens[0] = 2 },
		"no nodes":                       func(s *State) { s.Nodes = nil },
		"no root":                        func(s *State) { s.Nodes = s.Nodes[1:] },
		"the root of the next generation": func(s *State) {
			s.Gens[0], s.Nodes[0].Handle, s.Nodes[1].Parent, s.Nodes[4].Parent = 2, rootHandle+1, rootHandle+1, rootHandle+1
		},
		"the root in another slot": func(s *State) {
			h := nodeAt(40, 1)
			s.Nodes[0].Handle, s.Nodes[1].Parent, s.Nodes[4].Parent = h, h, h
		},
		"the root with a parent":                  func(s *State) { s.Nodes[0].Parent = x.a },
		"the root below itself":                   func(s *State) { s.Nodes[0].Parent = rootHandle },
		"the root with a reservation":             func(s *State) { s.Nodes[0].Budget = budget.Budget{Now: api.Reserve{Q: 1, P: 99}, Left: 1, End: 99} },
		"the root dying":                          func(s *State) { s.Nodes[0].Budget.Dying = true },
		"the root with slots of tasks":            func(s *State) { s.Nodes[0].Leaf = LeafState{Gens: slices.Repeat([]int{1}, 8), Taken: make([]bool, 8)} },
		"the root with a task":                    func(s *State) { s.Nodes[0].Leaf.Tasks = []api.Task{{}} },
		"the root with a truth":                   func(s *State) { s.Nodes[0].Leaf.Taken = []bool{false} },
		"the root with a generation":              func(s *State) { s.Nodes[0].Leaf.Gens = []int{1} },
		"a node of no parent":                     func(s *State) { s.Nodes[1].Parent = 0 },
		"a node below itself":                     func(s *State) { s.Nodes[1].Parent = x.a },
		"a node below a later one":                func(s *State) { s.Nodes[1].Parent = x.b },
		"two nodes below each other":              func(s *State) { s.Nodes[2].Parent, s.Nodes[3].Parent = x.d, x.c },
		"a node below what has gone":              func(s *State) { s.Nodes[1].Parent = x.goneNode },
		"a node below a task":                     func(s *State) { s.Nodes[1].Parent = x.ta },
		"a node with a task's handle":             func(s *State) { s.Nodes[4].Handle += kindFactor },
		"a node without a handle":                 func(s *State) { s.Nodes[4].Handle = 0 },
		"a node beyond the slots":                 func(s *State) { s.Nodes[4].Handle = nodeAt(mostNodes, 1) },
		"a node twice":                            func(s *State) { s.Nodes = append(s.Nodes, s.Nodes[4]) },
		"children not by their slots":             func(s *State) { s.Nodes = slices.Concat(s.Nodes[:1], s.Nodes[4:], s.Nodes[1:4]) },
		"a child not behind its parent":           func(s *State) { s.Nodes[1], s.Nodes[2] = s.Nodes[2], s.Nodes[1] },
		"another child in between":                func(s *State) { s.Nodes[3], s.Nodes[4] = s.Nodes[4], s.Nodes[3] },
		"no reservation":                          func(s *State) { s.Nodes[1].Budget = budget.Budget{} },
		"a reservation above the whole":           func(s *State) { s.Nodes[1].Budget.Now.Q = 3 },
		"the same pending as in force":            func(s *State) { s.Nodes[4].Budget.Next = s.Nodes[4].Budget.Now },
		"more left than the budget":               func(s *State) { s.Nodes[1].Budget.Left = 2 },
		"less than nothing left":                  func(s *State) { s.Nodes[1].Budget.Left = -1 },
		"an end that is none":                     func(s *State) { s.Nodes[1].Budget.End++ },
		"a period that is over":                   func(s *State) { b := &s.Nodes[1].Budget; b.Start -= 2; b.End -= 2 },
		"a period that ends now":                  func(s *State) { b := &s.Nodes[4].Budget; b.Start, b.End = s.Now-4, s.Now },
		"a period that begins with the next tick": func(s *State) { b := &s.Nodes[4].Budget; b.Start, b.End = s.Now+1, s.Now+5 },
		"a period that is to come":                func(s *State) { b := &s.Nodes[1].Budget; b.Start += 2; b.End += 2 },
		"a clock below 0":                         func(s *State) { s.Nodes[3].Clock = -1 },
		"a clock that is not what was given":      func(s *State) { s.Nodes[3].Clock++ },
		"the root's clock":                        func(s *State) { s.Nodes[0].Clock++ },
		"more than the whole":                     func(s *State) { b := &s.Nodes[4].Budget; b.Next = api.Reserve{Q: 2, P: 3} },
		"an account not even":                     func(s *State) { s.Nodes[1].Acc.Own++ },
		"given and a clock not even":              func(s *State) { s.Nodes[1].Acc.Given++; s.Nodes[1].Acc.Own++; s.Nodes[1].Clock++ },
		"closed not even":                         func(s *State) { s.Nodes[0].Closed.Own++ },
		"more lent than own":                      func(s *State) { s.Nodes[1].Acc.Lent = s.Nodes[1].Acc.Own + 1 },
		"more done than own, not lent":            func(s *State) { s.Nodes[4].Acc.Lent = s.Nodes[4].Acc.Own; s.Nodes[4].Acc.Done = 1 },
		"late, and not done":                      func(s *State) { s.Nodes[4].Acc.Late = s.Nodes[4].Acc.Done + s.Nodes[4].Acc.Cut + 1 },
		"done below 0":                            func(s *State) { s.Nodes[4].Acc.Done = -1 },
		"closed: more lent than own":              func(s *State) { s.Nodes[0].Closed.Lent = 2 },
		"closed: done and lent":                   func(s *State) { s.Nodes[0].Closed.Done = 1 },
		"closed: late, and not done":              func(s *State) { s.Nodes[0].Closed.Lent, s.Nodes[0].Closed.Late = 0, 1 },
		"a node without slots of tasks":           func(s *State) { s.Nodes[1].Leaf = LeafState{} },
		"a task too few":                          func(s *State) { s.Nodes[1].Leaf.Tasks = nil },
		"a slot of tasks too few":                 func(s *State) { s.Nodes[1].Leaf.Gens = s.Nodes[1].Leaf.Gens[:7] },
		"a task of no priority":                   func(s *State) { s.Nodes[1].Leaf.Tasks[0].Prio = 32 },
		"a task given more than was":              func(s *State) { a := &s.Nodes[1].Leaf.Tasks[0].Acc; a.Given, a.Own = s.Now+1, s.Now+1 },
		"a job of no length":                      func(s *State) { s.Nodes[1].Leaf.Tasks[0].Jobs[0].Length = 0 },
		"a job to come":                           func(s *State) { s.Nodes[1].Leaf.Tasks[0].Jobs[0].At = s.Now + 1 },
		"a best-effort task given more":           func(s *State) { a := &s.Slack.Tasks[0].Acc; a.Given, a.Own = s.Now+1, s.Now+1 },
		"a best-effort job to come":               func(s *State) { s.Slack.Tasks[0].Jobs[0].At = s.Now + 1 },
		"no best-effort slots":                    func(s *State) { s.Slack = LeafState{} },
		"a last one beyond the slots":             func(s *State) { s.Last = mostSlack },
		"a last one below -1":                     func(s *State) { s.Last = -2 },
		"a last one that never was":               func(s *State) { s.Last = 9 },
	} {
		s := plain(x.k.State())
		spoil(&s)
		if k, err := Load(s); k != nil || err != error(api.ErrState) {
			t.Errorf("%s: %v %v", name, k, err)
		}
		if mayLoad(s) {
			t.Errorf("%s: the rules take it", name)
		}
	}
	if _, err := Load(x.k.State()); err != nil {
		t.Error(err)
	}
	if k, err := Load(State{}); k != nil || err != error(api.ErrState) {
		t.Errorf("the zero State: %v %v", k, err)
	}
}

// TestLoadAtTheBounds: what no row of operations comes to, but the rules take.
func TestLoadAtTheBounds(t *testing.T) {
	x := smallOf(t)
	x.jobs(x.a, x.ta, api.Job{Length: 5})
	for name, change := range map[string]func(s *State){
		"Idle is Now":                         func(s *State) { s.Idle = s.Now },
		"Idle is 0":                           func(s *State) { s.Idle = 0 },
		"a free slot that is used up":         func(s *State) { s.Gens[40] = lastGen + 1 },
		"free slots of any generations":       func(s *State) { s.Gens[40], s.Gens[41], s.Gens[63] = 17, lastGen, 2 },
		"a node of the last generation":       func(s *State) { s.Gens[2], s.Nodes[4].Handle = lastGen, nodeAt(2, lastGen) },
		"the last slot":                       func(s *State) { s.Gens[2], s.Nodes[4].Handle = 1, nodeAt(mostNodes-1, 1) },
		"a child in a slot never given ahead": func(s *State) { s.Gens[3], s.Nodes[2].Handle, s.Nodes[3].Parent = 1, nodeAt(5, 1), nodeAt(5, 1) },
		"nothing left":                        func(s *State) { s.Nodes[4].Budget.Left = 0 },
		"a period that begins now":            func(s *State) { b := &s.Nodes[4].Budget; b.Start, b.End = s.Now, s.Now+4 },
		"a period that ends with a tick":      func(s *State) { b := &s.Nodes[4].Budget; b.Start, b.End = s.Now-3, s.Now+1 },
		"just the whole":                      func(s *State) { s.Nodes[4].Budget.Next = api.Reserve{Q: 2, P: 4} },
		"all dying":                           func(s *State) { s.Nodes[1].Budget.Dying, s.Nodes[2].Budget.Dying = true, true },
		"a task given all":                    func(s *State) { a := &s.Nodes[1].Leaf.Tasks[0].Acc; a.Given, a.Own = s.Now, s.Now },
		"a job of this tick":                  func(s *State) { s.Nodes[1].Leaf.Tasks[0].Jobs[0].At = s.Now },
		"all own was lent":                    func(s *State) { a := &s.Nodes[1].Acc; a.Lent, a.Done, a.Cut, a.Late = a.Own, 0, 0, 0 },
		"all own was done, and late":          func(s *State) { a := &s.Nodes[1].Acc; a.Lent, a.Done, a.Cut, a.Late = 0, a.Own, 0, a.Own },
		"all closed was cut, and late":        func(s *State) { a := &s.Nodes[0].Closed; a.Lent, a.Done, a.Cut, a.Late = 0, 0, a.Own, a.Own },
		"the last one is free, and had been":  func(s *State) { s.Slack.Gens[9], s.Last = 2, 9 },
		"no last one":                         func(s *State) { s.Last = -1 },
	} {
		s := plain(x.k.State())
		change(&s)
		if !verdict(t, name, s) {
			t.Errorf("%s: refused", name)
		}
	}
}

// TestLoadOfADeepTree: as deep as may be is taken, one deeper is not.
func TestLoadOfADeepTree(t *testing.T) {
	p, row := deep(t, 1, 2)
	s := plain(p.k.State())
	below := func(parent api.Handle) State {
		s := plain(s)
		n := plain(s).Nodes[mostDepth]
		n.Handle, n.Parent = nodeAt(mostDepth+1, 1), parent
		s.Nodes = append(s.Nodes, n)
		return s
	}
	if !verdict(t, "beside the last one", below(row[mostDepth-1])) {
		t.Error("refused")
	}
	if verdict(t, "below the last one", below(row[mostDepth])) {
		t.Error("taken")
	}
	// A row of all 64, and of more than there are slots.
	for _, many := range []int{10, 63, 64, 65, 200} {
		long := plain(s)
		for slot := mostDepth + 1; slot < many; slot++ {
			n := plain(s).Nodes[mostDepth]
			n.Handle, n.Parent = nodeAt(slot, 1), nodeAt(slot-1, 1)
			long.Nodes = append(long.Nodes, n)
		}
		if verdict(t, fmt.Sprint("a row of ", many), long) {
			t.Errorf("a row of %d is taken", many)
		}
	}
}

// TestLoadKeepsNothing: the lists that are handed in can be changed behind it, with their spare room; and Load doesn't touch that.
func TestLoadKeepsNothing(t *testing.T) {
	for what, s := range bases(t) {
		s = plain(s)
		s.Gens = append(append(make([]int, 0, 90), s.Gens...), -7)[:mostNodes]
		s.Nodes = append(append(make([]NodeState, 0, 90), s.Nodes...), NodeState{Clock: -7})[:len(s.Nodes)]
		p := loaded(t, s)
		if s.Gens[:cap(s.Gens)][mostNodes] != -7 || s.Nodes[:cap(s.Nodes)][len(s.Nodes)].Clock != -7 {
			t.Errorf("%s: the spare room was touched", what)
		}
		spoilLists(s)
		p.check()
		p.tick()
		p.check()
	}
}

// spoilLists makes all numbers of a State's lists others, in their spare room too.
func spoilLists(s State) {
	leaf := func(l LeafState) {
		for i := range l.Gens[:cap(l.Gens)] {
			l.Gens[:cap(l.Gens)][i] = -5
		}
		for i, is := range l.Taken[:cap(l.Taken)] {
			l.Taken[:cap(l.Taken)][i] = !is
		}
		for i, x := range l.Tasks[:cap(l.Tasks)] {
			for j := range x.Jobs[:cap(x.Jobs)] {
				x.Jobs[:cap(x.Jobs)][j] = api.Job{Length: -5}
			}
			l.Tasks[:cap(l.Tasks)][i] = api.Task{Prio: -5}
		}
	}
	leaf(s.Slack)
	for i := range s.Gens[:cap(s.Gens)] {
		s.Gens[:cap(s.Gens)][i] = -5
	}
	for i, n := range s.Nodes[:cap(s.Nodes)] {
		leaf(n.Leaf)
		s.Nodes[:cap(s.Nodes)][i] = NodeState{Clock: -5}
	}
}

// TestStateIsNew: a State's lists are changed by who asked for it, and the kernel, and other States, are as they were.
func TestStateIsNew(t *testing.T) {
	for _, s := range bases(t) {
		p := loaded(t, s)
		for range 2 {
			one, other := p.k.State(), p.k.State()
			kept := plain(other)
			spoilLists(one)
			p.check()
			if !sameState(other, kept) {
				t.Error("two States share a list")
			}
			p.tick()
			if !sameState(other, kept) {
				t.Error("a State was changed behind it")
			}
		}
	}
}

// TestListsOfAStateAreApart: no two lists of one State share their room.
func TestListsOfAStateAreApart(t *testing.T) {
	for what, s := range bases(t) {
		p := loaded(t, s)
		s := p.k.State()
		var lists []reflect.Value
		walk(reflect.ValueOf(&s).Elem(), "State", func(_ string, v reflect.Value) {
			if v.Kind() == reflect.Slice && v.Cap() > 0 {
				lists = append(lists, v)
			}
		})
		seen := map[uintptr]bool{}
		for _, v := range lists {
			size := v.Type().Elem().Size()
			for i := range uintptr(v.Cap()) {
				at := v.Pointer() + i*size
				if size < 8 {
					at = at*8 + 1 // a list of truths: each its own
				}
				if seen[at] {
					t.Fatalf("%s: two lists share their room", what)
				}
				seen[at] = true
			}
		}
	}
}

// TestOfTheRoot: what State tells of the root, and of the order.
func TestOfTheRoot(t *testing.T) {
	x := smallOf(t)
	s := x.k.State()
	root := s.Nodes[0]
	if root.Handle != rootHandle || root.Parent != 0 || root.Budget != (budget.Budget{}) || root.Clock != s.Now {
		t.Errorf("the root: %v", root)
	}
	if len(root.Leaf.Gens)+len(root.Leaf.Taken)+len(root.Leaf.Tasks) > 0 {
		t.Errorf("the root's leaf: %v", root.Leaf)
	}
	var handles, parents []api.Handle
	for _, n := range s.Nodes {
		handles, parents = append(handles, n.Handle), append(parents, n.Parent)
	}
	if !slices.Equal(handles, x.k.All()) || !slices.Equal(parents, []api.Handle{0, rootHandle, x.a, x.c, rootHandle}) {
		t.Errorf("the nodes: %v below %v", handles, parents)
	}
	if s.Gens[1] != 2 || s.Gens[2] != 1 || s.Slack.Gens[0] != 2 || s.Nodes[1].Leaf.Gens[0] != 2 || s.Last != 0 {
		t.Errorf("State: %v", s)
	}
}

// TestLoadGoesOnAlike: KN8: a kernel that was saved and loaded, at each step of a row, goes on as the one that was not.
func TestLoadGoesOnAlike(t *testing.T) {
	for seed := range int64(6) {
		r := rand.New(rand.NewSource(seed))
		p := made(t)
		for range 60 {
			p.stir(r, 10)
			p.k = p.again().k
			p.check()
		}
		one, other := p.twin(), p.again()
		one.stir(rand.New(rand.NewSource(seed)), 100)
		other.stir(rand.New(rand.NewSource(seed)), 100)
		if !sameState(one.k.State(), other.k.State()) {
			t.Fatal("they went on apart")
		}
	}
}
