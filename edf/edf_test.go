package edf

import (
	"fmt"
	"math"
	"math/big"
	"math/rand"
	"slices"
	"testing"

	"tithe/api"
)

// What the document writes: the whole, the last time, the longest period, how many items there may be, how long a plan, how far Feasible looks.
const (
	whole      = 1048576
	lastTime   = 1073741824
	longest    = 1048576
	mostItems  = 64
	mostTicks  = 4096
	mostLooked = 256
)

// edges are numbers at which something might change, wrong ones among them; as budgets, as periods and as times.
var edges = []int{
	math.MinInt, math.MinInt + 1, -1 << 32, -lastTime, -longest, -2, -1, 0, 1, 2, 3, 255, 256, 257, 4095, 4096, 4097,
	longest - 1, longest, longest + 1, lastTime - longest, lastTime - 1, lastTime, lastTime + 1, lastTime + longest,
	1 << 32, 1<<32 + 1, 1 << 44, 1<<62 + 1, math.MaxInt - 1, math.MaxInt,
}

// The chapter's words, with its numbers written out.
func within(n, low, high int) bool { return !(n < low) && !(n > high) }
func time(n int) bool              { return within(n, 0, lastTime) }

// errOfItem is what is wrong with an item.
func errOfItem(x Item) error {
	if !within(x.P, 1, longest) || !within(x.Q, 1, x.P) {
		return api.ErrRange
	}
	if !time(x.Start) {
		return api.ErrArg
	}
	return nil
}

// errOf is what is wrong with items.
func errOf(l []Item) error {
	if len(l) > mostItems {
		return api.ErrLong
	}
	for _, x := range l {
		if err := errOfItem(x); err != nil {
			return err
		}
	}
	return nil
}

// period is a stretch.
type period struct{ from, to int }

// periodsOf are the periods of an item that lie in a stretch.
func periodsOf(x Item, from, to int) []period {
	l := []period{}
	for k := 0; x.Start+(k+1)*x.P <= to; k++ {
		if x.Start+k*x.P >= from {
			l = append(l, period{x.Start + k*x.P, x.Start + (k+1)*x.P})
		}
	}
	return l
}

// has is how many ticks of a plan between two times go to a place.
func has(plan []int, place, from, to int) int {
	n := 0
	for now := from; now < to; now++ {
		if plan[now] == place {
			n++
		}
	}
	return n
}

// left is the budget that an item has at a time, behind the ticks of a plan ahead of it.
func left(x Item, place int, plan []int, now int) int {
	if now < x.Start {
		return 0
	}
	begin := now - (now-x.Start)%x.P
	return x.Q - has(plan, place, begin, now)
}

// end is the end of the period that an item is in.
func end(x Item, now int) int { return now - (now-x.Start)%x.P + x.P }

// planned is the plan by the chapter's words.
func planned(l []Item, n int) []int {
	plan := []int{}
	for now := 0; now < n; now++ {
		best := -1
		for place, x := range l {
			if left(x, place, plan, now) > 0 && (best < 0 || end(x, now) < end(l[best], now)) {
				best = place
			}
		}
		plan = append(plan, best)
	}
	return plan
}

// missing are how many periods of each item have too little of a plan.
func missing(l []Item, plan []int) []int {
	missed := make([]int, len(l))
	for place, x := range l {
		for _, p := range periodsOf(x, 0, len(plan)) {
			if has(plan, place, p.from, p.to) < x.Q {
				missed[place]++
			}
		}
	}
	return missed
}

// asked is what items ask for in a stretch.
func asked(l []Item, from, to int) int {
	sum := 0
	for _, x := range l {
		sum += x.Q * len(periodsOf(x, from, to))
	}
	return sum
}

// none tells whether all numbers are 0.
func none(l []int) bool {
	return !slices.ContainsFunc(l, func(n int) bool { return n != 0 })
}

// same are so many items that are alike.
func same(n int, x Item) []Item { return slices.Repeat([]Item{x}, n) }

// itemsUpTo are all items that may be with periods and starts up to these.
func itemsUpTo(p, start int) []Item {
	var l []Item
	for period := 1; period <= p; period++ {
		for q := 1; q <= period; q++ {
			for from := 0; from <= start; from++ {
				l = append(l, Item{q, period, from})
			}
		}
	}
	return l
}

// rowsOf calls a function with each list of at most so many of some items.
func rowsOf(items []Item, most int, do func(l []Item)) {
	var grow func(l []Item)
	grow = func(l []Item) {
		do(l)
		if len(l) == most {
			return
		}
		for _, x := range items {
			grow(append(slices.Clip(l), x))
		}
	}
	grow(nil)
}

// anyItem is an item by chance.
func anyItem(chance *rand.Rand, p, start int) Item {
	period := 1 + chance.Intn(p)
	return Item{1 + chance.Intn(period), period, chance.Intn(start + 1)}
}

// anyItems are items by chance.
func anyItems(chance *rand.Rand, n, p, start int) []Item {
	l := []Item{}
	for range n {
		l = append(l, anyItem(chance, p, start))
	}
	return l
}

// fitting are items by chance whose shares are at most the whole.
func fitting(chance *rand.Rand, most, p, start int) []Item {
	l := []Item{}
	free := whole
	for range most {
		x := anyItem(chance, p, start)
		x.Q = min(x.Q, 1+chance.Intn(1+x.P/3))
		units := (x.Q*whole + x.P - 1) / x.P
		if units <= free {
			l = append(l, x)
			free -= units
		}
	}
	return l
}

// call is a call of which items are an argument: its error, and what it answers beside, as a list; a false and a nil list are the empty one.
type call struct {
	name string
	do   func(l []Item) ([]int, error)
}

// one is a number that was answered, as a list: 0 as the empty one.
func one(n int, err error) ([]int, error) {
	if n == 0 {
		return nil, err
	}
	return []int{n}, err
}

// calls are all calls of which items are an argument, with other arguments that may be.
var calls = []call{
	{"Valid", func(l []Item) ([]int, error) { return nil, Valid(l) }},
	{"Plan", func(l []Item) ([]int, error) { return Plan(l, 3) }},
	{"Plan of none", func(l []Item) ([]int, error) { return Plan(l, 0) }},
	{"Plan, longest", func(l []Item) ([]int, error) { return Plan(l, mostTicks) }},
	{"Missed", func(l []Item) ([]int, error) { return Missed(l, []int{-1, -1}) }},
	{"Missed of none", func(l []Item) ([]int, error) { return Missed(l, nil) }},
	{"Demand", func(l []Item) ([]int, error) { return one(Demand(l, 0, lastTime)) }},
	{"Demand back", func(l []Item) ([]int, error) { return one(Demand(l, lastTime, 0)) }},
	{"Feasible", func(l []Item) ([]int, error) { return feasible(l, 3) }},
	{"Feasible of none", func(l []Item) ([]int, error) { return feasible(l, 0) }},
	{"Hyper", func(l []Item) ([]int, error) { return one(Hyper(l)) }},
	{"Load", func(l []Item) ([]int, error) { return one(Load(l)) }},
}

// feasible is what Feasible answers, as a list; a false without numbers is the empty one.
func feasible(l []Item, n int) ([]int, error) {
	may, from, to, err := Feasible(l, n)
	switch {
	case may:
		return []int{1, from, to}, err
	case from != 0 || to != 0:
		return []int{0, from, to}, err
	}
	return nil, err
}

// refused holds each call that has items against an error, with results that are zero values.
func refused(t *testing.T, l []Item, want error) {
	t.Helper()
	for _, c := range calls {
		if got, err := c.do(l); len(got) != 0 || err != want {
			t.Errorf("%s of %v = %v, %v; want %v", c.name, l, got, err, want)
		}
	}
}

// taken holds each call that has items against ErrLong, ErrRange and ErrArg: it answers none of them.
func taken(t *testing.T, l []Item) {
	t.Helper()
	for _, c := range calls {
		if _, err := c.do(l); err != nil && (c.name != "Hyper" || err != api.ErrOverflow) {
			t.Errorf("%s of %v: %v", c.name, l, err)
		}
	}
}

// The chapter's examples.
func TestExamples(t *testing.T) {
	plan, err := Plan([]Item{{1, 2, 0}, {1, 3, 0}}, 6)
	if !slices.Equal(plan, []int{0, 1, 0, 1, 0, -1}) || err != nil {
		t.Errorf("Plan = %v, %v", plan, err)
	}
	missed, err := Missed([]Item{{2, 2, 0}, {1, 2, 0}}, []int{0, 0, 1, 0})
	if !slices.Equal(missed, []int{1, 1}) || err != nil {
		t.Errorf("Missed = %v, %v", missed, err)
	}
	if n, err := Demand([]Item{{1, 2, 0}, {1, 3, 1}}, 0, 6); n != 4 || err != nil {
		t.Errorf("Demand = %d, %v", n, err)
	}
	if n, err := Lag(Item{1, 4, 2}, 1, 6); n != 0 || err != nil {
		t.Errorf("Lag = %d, %v", n, err)
	}
}

// ED1: who is picked: Left above 0, the least End, the lowest Slot, the first one; and all in that order.
func TestPick(t *testing.T) {
	for _, c := range []struct {
		l     []Child
		order []int
	}{
		{nil, nil},
		{[]Child{}, nil},
		{[]Child{{0, 0, 0}}, nil},
		{[]Child{{0, -1, 0}}, nil},
		{[]Child{{3, 1, 5}}, []int{0}},
		{[]Child{{0, 0, 1}, {1, -1, 2}, {2, math.MinInt, 3}}, nil},
		{[]Child{{0, 0, 1}, {1, 1, 9}, {2, -1, 2}}, []int{1}},
		{[]Child{{1, 1, 8}, {2, 1, 7}, {3, 1, 9}}, []int{1, 0, 2}},
		{[]Child{{0, 1, 8}, {9, 1, 7}}, []int{1, 0}},
		{[]Child{{0, 9, 8}, {0, 1, 7}}, []int{1, 0}},
		{[]Child{{5, 1, 7}, {4, 1, 7}, {6, 1, 7}}, []int{1, 0, 2}},
		{[]Child{{5, 1, 7}, {5, 9, 7}, {5, 2, 7}}, []int{0, 1, 2}},
		{[]Child{{5, 0, 7}, {5, 9, 7}, {5, 2, 7}}, []int{1, 2}},
		{[]Child{{-1, 1, 7}, {-2, 1, 7}, {0, 1, 7}}, []int{1, 0, 2}},
		{[]Child{{0, 1, -7}, {0, 1, -8}, {0, 1, 0}}, []int{1, 0, 2}},
		{[]Child{{0, 1, math.MaxInt}, {0, 1, math.MinInt}, {0, 1, 0}}, []int{1, 2, 0}},
		{[]Child{{math.MaxInt, 1, 0}, {math.MinInt, 1, 0}, {0, 1, 0}}, []int{1, 2, 0}},
		{[]Child{{0, math.MinInt, 0}, {0, math.MaxInt, 0}, {0, 1, 0}}, []int{1, 2}},
		{[]Child{{math.MaxInt, math.MaxInt, math.MaxInt}}, []int{0}},
		{[]Child{{math.MinInt, 1, math.MinInt}}, []int{0}},
	} {
		first := -1
		if len(c.order) > 0 {
			first = c.order[0]
		}
		if got := Pick(c.l); got != first {
			t.Errorf("Pick(%v) = %d; want %d", c.l, got, first)
		}
		if got := Order(c.l); !slices.Equal(got, c.order) {
			t.Errorf("Order(%v) = %v; want %v", c.l, got, c.order)
		}
	}
}

// ahead tells whether the child at a place must be picked ahead of another one, by the rule's words.
func ahead(l []Child, a, b int) bool {
	if l[a].End != l[b].End {
		return l[a].End < l[b].End
	}
	if l[a].Slot != l[b].Slot {
		return l[a].Slot < l[b].Slot
	}
	return a < b
}

// checkPick holds Pick, and Order against Pick: without the one that it answers the next one is picked.
func checkPick(t *testing.T, l []Child) {
	t.Helper()
	first := -1
	for place, c := range l {
		if c.Left > 0 && (first < 0 || ahead(l, place, first)) {
			first = place
		}
	}
	if got := Pick(l); got != first {
		t.Fatalf("Pick(%v) = %d; want %d", l, got, first)
	}
	var want []int
	rest, places := slices.Clone(l), []int{}
	for place := range l {
		places = append(places, place)
	}
	for Pick(rest) != -1 {
		at := Pick(rest)
		want = append(want, places[at])
		rest, places = slices.Delete(rest, at, at+1), slices.Delete(places, at, at+1)
	}
	if got := Order(l); !slices.Equal(got, want) {
		t.Fatalf("Order(%v) = %v; want %v", l, got, want)
	}
	for _, c := range rest {
		if c.Left > 0 {
			t.Fatalf("of %v none is picked", rest)
		}
	}
}

// ED1, ED7: each list of up to four children of two slots and two ends, with budget left and without.
func TestPickOfAllLists(t *testing.T) {
	var kinds []Child
	for _, left := range []int{-1, 0, 1, 2} {
		for slot := range 2 {
			for end := range 2 {
				kinds = append(kinds, Child{slot, left, end})
			}
		}
	}
	var grow func(l []Child)
	grow = func(l []Child) {
		checkPick(t, l)
		if len(l) == 4 {
			return
		}
		for _, c := range kinds {
			grow(append(slices.Clip(l), c))
		}
	}
	grow(nil)
}

// ED1, ED7: two children with the least and the greatest numbers in all fields.
func TestPickOfEdges(t *testing.T) {
	numbers := []int{math.MinInt, math.MinInt + 1, -1, 0, 1, math.MaxInt - 1, math.MaxInt}
	var kinds []Child
	for _, slot := range numbers {
		for _, left := range numbers {
			for _, end := range numbers {
				kinds = append(kinds, Child{slot, left, end})
			}
		}
	}
	for _, a := range kinds {
		for _, b := range kinds {
			checkPick(t, []Child{a, b})
		}
	}
}

// ED1, ED7: long lists, in which many have the same End, or the same End and the same Slot.
func TestPickOfLongLists(t *testing.T) {
	chance := rand.New(rand.NewSource(1))
	for round := range 600 {
		var l []Child
		for range chance.Intn(300) {
			l = append(l, Child{chance.Intn(1 + round%5), chance.Intn(4) - 1, chance.Intn(1 + round%7)})
		}
		checkPick(t, l)
	}
	checkPick(t, slices.Repeat([]Child{{7, 1, 7}}, 1000))
}

// ED2: which items may be: Q and P at 0, 1, MaxPeriod and one beyond; Start at -1, 0, MaxTicks and one beyond; Q and P are looked at ahead of Start.
func TestValid(t *testing.T) {
	for _, c := range []struct {
		x   Item
		err error
	}{
		{Item{1, 1, 0}, nil},
		{Item{1, 2, 0}, nil},
		{Item{2, 2, 5}, nil},
		{Item{1, 1048576, 0}, nil},
		{Item{1048576, 1048576, 1073741824}, nil},
		{Item{1048575, 1048576, 1073741823}, nil},
		{Item{}, api.ErrRange},
		{Item{0, 1, 0}, api.ErrRange},
		{Item{0, 0, 0}, api.ErrRange},
		{Item{1, 0, 0}, api.ErrRange},
		{Item{-1, 1, 0}, api.ErrRange},
		{Item{-1, -1, 0}, api.ErrRange},
		{Item{-2, -1, 0}, api.ErrRange},
		{Item{1, -1, 0}, api.ErrRange},
		{Item{2, 1, 0}, api.ErrRange},
		{Item{1, 1048577, 0}, api.ErrRange},
		{Item{1048577, 1048577, 0}, api.ErrRange},
		{Item{1048577, 1048576, 0}, api.ErrRange},
		{Item{1, 1, -1}, api.ErrArg},
		{Item{1, 1, 1073741825}, api.ErrArg},
		{Item{1, 1, math.MinInt}, api.ErrArg},
		{Item{1, 1, math.MaxInt}, api.ErrArg},
		{Item{0, 1, -1}, api.ErrRange},
		{Item{2, 1, 1073741825}, api.ErrRange},
		{Item{1, 1048577, -1}, api.ErrRange},
		{Item{1, 0, math.MaxInt}, api.ErrRange},
		{Item{math.MinInt, math.MinInt, math.MinInt}, api.ErrRange},
		{Item{math.MaxInt, math.MaxInt, math.MaxInt}, api.ErrRange},
		{Item{math.MinInt, math.MaxInt, 0}, api.ErrRange},
		{Item{math.MaxInt, math.MinInt, 0}, api.ErrRange},
	} {
		if err := Valid([]Item{c.x}); err != c.err {
			t.Errorf("Valid(%v) = %v; want %v", c.x, err, c.err)
		}
	}
}

// ED2: of several items the first one that may not be is told; too many of them ahead of any.
func TestValidOfMany(t *testing.T) {
	good, bad, late := Item{1, 2, 0}, Item{3, 2, 0}, Item{1, 2, -1}
	full := same(64, good)
	for _, c := range []struct {
		l   []Item
		err error
	}{
		{nil, nil},
		{[]Item{}, nil},
		{full, nil},
		{same(65, good), api.ErrLong},
		{same(1000, good), api.ErrLong},
		{same(65, bad), api.ErrLong},
		{same(65, late), api.ErrLong},
		{append(slices.Clone(full), bad), api.ErrLong},
		{append([]Item{bad}, full...), api.ErrLong},
		{append([]Item{late}, full...), api.ErrLong},
		{append(slices.Clone(full[1:]), bad), api.ErrRange},
		{append(slices.Clone(full[1:]), late), api.ErrArg},
		{[]Item{bad, late}, api.ErrRange},
		{[]Item{late, bad}, api.ErrArg},
		{[]Item{good, late, good, bad}, api.ErrArg},
		{[]Item{good, bad, good, late}, api.ErrRange},
		{[]Item{late, late}, api.ErrArg},
		{[]Item{good, {3, 2, -1}}, api.ErrRange},
		{[]Item{good, {}, late}, api.ErrRange},
	} {
		if err := Valid(c.l); err != c.err || err != errOf(c.l) {
			t.Errorf("Valid(%v) = %v; want %v", c.l, err, c.err)
		}
		if c.err == nil {
			taken(t, c.l)
		} else {
			refused(t, c.l, c.err)
		}
	}
}

// ED2 to ED5: each item of the edges, alone and behind one that may be: each call that has items says the same of them.
func TestItemsOfEdges(t *testing.T) {
	for _, q := range edges {
		for _, p := range edges {
			for _, start := range edges {
				x := Item{q, p, start}
				want := errOfItem(x)
				if err := Valid([]Item{x}); err != want {
					t.Fatalf("Valid(%v) = %v; want %v", x, err, want)
				}
				if err := Valid([]Item{{1, 1, 0}, x, {1, 1, 0}}); err != want {
					t.Fatalf("Valid(%v), with others, = %v; want %v", x, err, want)
				}
				if want != nil {
					refused(t, []Item{x}, want)
					if got, err := Lag(x, 1, 3); got != 0 || err != want {
						t.Errorf("Lag of %v = %d, %v; want %v", x, got, err, want)
					}
				}
			}
		}
	}
}

// checkPlan holds Plan against the chapter's words: who has each tick, and that one is nobody's only where nobody has budget left.
func checkPlan(t *testing.T, l []Item, n int) []int {
	t.Helper()
	got, err := Plan(l, n)
	if want := planned(l, n); !slices.Equal(got, want) || err != nil {
		t.Fatalf("Plan(%v, %d) = %v, %v; want %v", l, n, got, err, want)
	}
	return got
}

// ED2: plans.
func TestPlan(t *testing.T) {
	for _, c := range []struct {
		l    []Item
		want []int
	}{
		{nil, nil},
		{[]Item{{1, 1, 0}}, nil},
		{nil, []int{-1, -1, -1}},
		{[]Item{{1, 1, 0}}, []int{0, 0, 0}},
		{[]Item{{1, 3, 0}}, []int{0, -1, -1, 0, -1, -1, 0}},
		{[]Item{{2, 3, 0}}, []int{0, 0, -1, 0, 0, -1, 0}},
		{[]Item{{1, 3, 2}}, []int{-1, -1, 0, -1, -1, 0, -1}},
		{[]Item{{1, 3, 1}}, []int{-1, 0, -1, -1, 0}},
		{[]Item{{3, 4, 5}}, []int{-1, -1, -1, -1}},
		{[]Item{{1, 2, 0}, {1, 4, 0}}, []int{0, 1, 0, -1, 0, 1, 0, -1}},
		{[]Item{{1, 4, 0}, {1, 2, 0}}, []int{1, 0, 1, -1}},
		{[]Item{{1, 2, 0}, {1, 2, 0}}, []int{0, 1, 0, 1}},
		{[]Item{{2, 4, 0}, {2, 4, 0}}, []int{0, 0, 1, 1, 0, 0, 1, 1}},
		{[]Item{{2, 4, 0}, {2, 4, 2}}, []int{0, 0, 1, 1, 0, 0, 1, 1}},
		{[]Item{{3, 6, 0}, {1, 2, 1}}, []int{0, 1, 0, 1, 0, 1}},
		{[]Item{{4, 8, 0}, {2, 3, 0}}, []int{1, 1, 0, 1, 1, 0, 0, 0, 1, 1}},
		{[]Item{{1, 1, 0}, {1, 1, 0}}, []int{0, 0, 0}},
		{[]Item{{2, 2, 0}, {2, 2, 1}}, []int{0, 0, 1, 0, 1}},
		{[]Item{{1048576, 1048576, 0}, {1, 1048576, 0}}, []int{0, 0, 0}},
		{[]Item{{1048576, 1048576, 0}, {1, 1048575, 0}}, []int{1, 0, 0}},
		{[]Item{{1, 1, 1073741824}, {1, 5, 4}}, []int{-1, -1, -1, -1, 1, -1}},
	} {
		if got, err := Plan(c.l, len(c.want)); !slices.Equal(got, c.want) || err != nil {
			t.Errorf("Plan(%v, %d) = %v, %v; want %v", c.l, len(c.want), got, err, c.want)
		}
		checkPlan(t, c.l, len(c.want))
	}
}

// ED2: what was not had in a period is gone at its end: it is no more than Q then.
func TestPlanKeepsNoRest(t *testing.T) {
	// The second item has nothing in its first period, and Q, not twice Q, in the next one.
	got := checkPlan(t, []Item{{3, 3, 0}, {1, 2, 1}}, 12)
	if want := []int{0, 0, 0, 1, 0, 0, 1, 0, 0, 1, 0, 0}; !slices.Equal(got, want) {
		t.Errorf("Plan = %v; want %v", got, want)
	}
	got = checkPlan(t, []Item{{1, 4, 0}, {3, 8, 0}, {4, 4, 0}}, 12)
	if want := []int{0, 2, 2, 2, 0, 1, 1, 1, 0, 2, 2, 2}; !slices.Equal(got, want) {
		t.Errorf("Plan = %v; want %v", got, want)
	}
}

// ED2: n at -1, 0, MaxBurst and one beyond; a wrong n is told ahead of wrong items.
func TestPlanOfLengths(t *testing.T) {
	lists := [][]Item{nil, {{1, 2, 0}}, {{0, 2, 0}}, {{1, 2, -1}}, same(64, Item{1, 64, 0}), same(65, Item{1, 64, 0})}
	for _, l := range lists {
		for _, n := range edges {
			want := errOf(l)
			if !within(n, 0, mostTicks) {
				want = api.ErrArg
			}
			got, err := Plan(l, n)
			if err != want {
				t.Errorf("Plan(%v, %d): %v; want %v", l, n, err, want)
			}
			if err != nil && len(got) != 0 || err == nil && len(got) != n {
				t.Errorf("Plan(%v, %d) has %d ticks", l, n, len(got))
			}
		}
	}
}

// ED2, ED7: each row of up to three small items, and rows by chance, held against the chapter's words.
func TestPlanRows(t *testing.T) {
	rowsOf(itemsUpTo(3, 2), 3, func(l []Item) { checkPlan(t, l, 10) })
	rowsOf(itemsUpTo(5, 4), 2, func(l []Item) { checkPlan(t, l, 23) })
	chance := rand.New(rand.NewSource(2))
	for range 300 {
		checkPlan(t, anyItems(chance, chance.Intn(65), 1+chance.Intn(70), chance.Intn(60)), chance.Intn(200))
	}
	for range 12 {
		checkPlan(t, anyItems(chance, 1+chance.Intn(4), 300, 500), mostTicks)
	}
	checkPlan(t, []Item{{1500, 4096, 0}, {1000, 2000, 96}, {7, 1048576, 4095}, {9, 9, 4096}}, mostTicks)
}

// ED3: how many periods have too little of a plan.
func TestMissed(t *testing.T) {
	for _, c := range []struct {
		l          []Item
		plan, want []int
	}{
		{nil, nil, nil},
		{nil, []int{-1, -1}, nil},
		{[]Item{{1, 1, 0}}, nil, []int{0}},
		{[]Item{{1, 1, 0}}, []int{-1}, []int{1}},
		{[]Item{{1, 1, 0}}, []int{0}, []int{0}},
		{[]Item{{1, 1, 0}}, []int{0, -1, 0, -1, -1}, []int{3}},
		{[]Item{{1, 2, 0}}, []int{-1}, []int{0}},
		{[]Item{{1, 2, 0}}, []int{-1, -1}, []int{1}},
		{[]Item{{1, 2, 0}}, []int{-1, -1, -1}, []int{1}},
		{[]Item{{1, 2, 0}}, []int{0, -1, -1, 0}, []int{0}},
		{[]Item{{1, 2, 1}}, []int{0, -1, -1, 0}, []int{1}},
		{[]Item{{1, 2, 1}}, []int{-1, -1, 0, -1}, []int{0}},
		{[]Item{{1, 2, 2}}, []int{0, 0, -1, -1}, []int{1}},
		{[]Item{{1, 2, 3}}, []int{0, 0, -1, -1}, []int{0}},
		{[]Item{{1, 2, 4}}, []int{-1, -1, -1, -1}, []int{0}},
		{[]Item{{1, 2, 5}}, []int{-1, -1, -1, -1}, []int{0}},
		{[]Item{{1, 2, 0}}, []int{0, 0, 0, 0}, []int{0}},
		{[]Item{{2, 3, 0}}, []int{0, 0, 0, 0, -1, -1}, []int{1}},
		{[]Item{{2, 3, 0}}, []int{0, -1, -1, 0, 0, 0}, []int{1}},
		{[]Item{{1, 2, 0}, {1, 2, 0}}, []int{0, 0, 1, 1}, []int{1, 1}},
		{[]Item{{1, 2, 0}, {1, 2, 0}}, []int{1, 1, 1, 1}, []int{2, 0}},
		{[]Item{{1, 2, 0}, {1, 4, 0}}, []int{1, 0, 0, -1}, []int{0, 0}},
		{[]Item{{1, 1048576, 0}}, []int{-1, -1}, []int{0}},
		{[]Item{{1, 1, 1073741824}}, []int{-1, -1}, []int{0}},
		{[]Item{{1048576, 1048576, 1073741824}, {2, 2, 0}}, []int{1, 0}, []int{0, 1}},
	} {
		if got, err := Missed(c.l, c.plan); !slices.Equal(got, c.want) || err != nil {
			t.Errorf("Missed(%v, %v) = %v, %v; want %v", c.l, c.plan, got, err, c.want)
		}
	}
}

// ED3: wrong plans are told ahead of wrong items; that the plan has a number that is a place of an item hangs on how many items there are, be they good or not.
func TestMissedRefuses(t *testing.T) {
	good, bad, late := Item{1, 2, 0}, Item{3, 2, 0}, Item{1, 2, -1}
	long := slices.Repeat([]int{-1}, mostTicks+1)
	for _, c := range []struct {
		l    []Item
		plan []int
		err  error
	}{
		{[]Item{good}, long[1:], nil},
		{[]Item{good}, long, api.ErrArg},
		{nil, long, api.ErrArg},
		{[]Item{bad}, long, api.ErrArg},
		{same(65, good), long, api.ErrArg},
		{same(65, good), long[1:], api.ErrLong},
		{nil, []int{0}, api.ErrArg},
		{nil, []int{-2}, api.ErrArg},
		{[]Item{good}, []int{-2}, api.ErrArg},
		{[]Item{good}, []int{1}, api.ErrArg},
		{[]Item{good}, []int{0, -1, 0, 1}, api.ErrArg},
		{[]Item{good}, []int{-2, 0}, api.ErrArg},
		{[]Item{good}, []int{math.MinInt}, api.ErrArg},
		{[]Item{good}, []int{math.MaxInt}, api.ErrArg},
		{[]Item{good, good}, []int{1, 2}, api.ErrArg},
		{[]Item{good, good}, []int{1, 0, -1}, nil},
		{same(64, good), []int{63}, nil},
		{same(64, good), []int{64}, api.ErrArg},
		{same(65, good), []int{64}, api.ErrLong},
		{same(65, good), []int{65}, api.ErrArg},
		{same(65, bad), []int{64}, api.ErrLong},
		{[]Item{bad}, []int{0}, api.ErrRange},
		{[]Item{bad}, []int{1}, api.ErrArg},
		{[]Item{bad}, []int{-2}, api.ErrArg},
		{[]Item{late}, []int{0, -1}, api.ErrArg},
		{[]Item{bad, late}, []int{1}, api.ErrRange},
		{[]Item{late, bad}, []int{1}, api.ErrArg},
		{[]Item{good, bad}, nil, api.ErrRange},
	} {
		got, err := Missed(c.l, c.plan)
		if err != c.err || err != nil && len(got) != 0 {
			t.Errorf("Missed of %d items like %v, %d ticks: %v, %v; want %v", len(c.l), c.l, len(c.plan), got, err, c.err)
		}
		if err == nil && !slices.Equal(got, missing(c.l, c.plan)) {
			t.Errorf("Missed(%v, %v) = %v; want %v", c.l, c.plan, got, missing(c.l, c.plan))
		}
	}
	for at := range mostTicks {
		plan := slices.Clone(long[1:])
		plan[at] = 1
		if got, err := Missed([]Item{good}, plan); len(got) != 0 || err != api.ErrArg {
			t.Fatalf("Missed with a wrong number at %d = %v, %v", at, got, err)
		}
	}
}

// plansOf calls a function with each plan of so many ticks of so many items.
func plansOf(items, n int, do func(plan []int)) {
	plan := slices.Repeat([]int{-1}, n)
	for {
		do(plan)
		at := 0
		for at < n && plan[at] == items-1 {
			plan[at] = -1
			at++
		}
		if at == n {
			return
		}
		plan[at]++
	}
}

// ED3: each plan of six ticks of rows of up to two small items, and plans by chance, held against the chapter's words.
func TestMissedRows(t *testing.T) {
	check := func(l []Item, plan []int) {
		if got, err := Missed(l, plan); !slices.Equal(got, missing(l, plan)) || err != nil {
			t.Fatalf("Missed(%v, %v) = %v, %v; want %v", l, plan, got, err, missing(l, plan))
		}
	}
	rowsOf(itemsUpTo(3, 2), 2, func(l []Item) {
		plansOf(len(l), 6, func(plan []int) { check(l, plan) })
	})
	chance := rand.New(rand.NewSource(3))
	for range 300 {
		l := anyItems(chance, chance.Intn(65), 1+chance.Intn(80), chance.Intn(60))
		plan := []int{}
		for range chance.Intn(1 + mostTicks) {
			plan = append(plan, chance.Intn(len(l)+1)-1)
		}
		check(l, plan)
	}
}

// ED3: how far an item is behind.
func TestLag(t *testing.T) {
	for _, c := range []struct {
		x          Item
		given, now int
		want       int
		err        error
	}{
		{Item{1, 4, 2}, 0, 0, 0, nil},
		{Item{1, 4, 2}, 0, 2, 0, nil},
		{Item{1, 4, 2}, 0, 3, 1, nil},
		{Item{1, 4, 2}, 1, 3, -3, nil},
		{Item{1, 4, 2}, 1, 2, -4, nil},
		{Item{1, 4, 2}, 1, 1, -4, nil},
		{Item{1, 4, 2}, 3, 0, -12, nil},
		{Item{3, 5, 0}, 4, 10, 10, nil},
		{Item{3, 5, 7}, 4, 10, -11, nil},
		{Item{1, 1, 0}, 9, 9, 0, nil},
		{Item{1, 1, 1073741824}, 0, 1073741824, 0, nil},
		{Item{1, 1, 1073741824}, 0, 1073741823, 0, nil},
		{Item{1048576, 1048576, 0}, 0, 1073741824, 1125899906842624, nil},
		{Item{1048576, 1048576, 0}, 1073741824, 1073741824, 0, nil},
		{Item{1048576, 1048576, 0}, 1073741824, 0, -1125899906842624, nil},
		{Item{1048576, 1048576, 1073741824}, 1073741824, 0, -1125899906842624, nil},
		{Item{1, 1048576, 0}, 1073741824, 1, -1125899906842623, nil},
		{Item{1048575, 1048576, 1}, 0, 1073741824, 1125898833100800 - 1048575, nil},
		{Item{1, 4, 2}, -1, 0, 0, api.ErrArg},
		{Item{1, 4, 2}, 0, -1, 0, api.ErrArg},
		{Item{1, 4, 2}, 1073741825, 0, 0, api.ErrArg},
		{Item{1, 4, 2}, 0, 1073741825, 0, api.ErrArg},
		{Item{1, 4, 2}, math.MinInt, math.MaxInt, 0, api.ErrArg},
		{Item{0, 4, 2}, -1, 0, 0, api.ErrArg},
		{Item{5, 4, 2}, 0, 1073741825, 0, api.ErrArg},
		{Item{5, 4, 2}, 1, 6, 0, api.ErrRange},
		{Item{1, 4, -1}, 1, 6, 0, api.ErrArg},
		{Item{5, 4, -1}, 1, 6, 0, api.ErrRange},
		{Item{1, 4, 1073741825}, 1, 6, 0, api.ErrArg},
		{Item{}, 0, 0, 0, api.ErrRange},
	} {
		if got, err := Lag(c.x, c.given, c.now); got != c.want || err != c.err {
			t.Errorf("Lag(%v, %d, %d) = %d, %v; want %d, %v", c.x, c.given, c.now, got, err, c.want, c.err)
		}
	}
}

// ED3: Lag of all edges, held against numbers without a bound.
func TestLagOfEdges(t *testing.T) {
	items := []Item{{1, 1, 0}, {1, 1048576, 0}, {1048576, 1048576, 3}, {5, 7, 1073741824}, {5, 7, 255}, {0, 1, 0}, {1, 1, -1}}
	for _, x := range items {
		for _, given := range edges {
			for _, now := range edges {
				checkLag(t, x, given, now)
			}
		}
	}
}

// checkLag holds Lag against the rule.
func checkLag(t *testing.T, x Item, given, now int) {
	t.Helper()
	want, wantErr := 0, errOfItem(x)
	if !time(given) || !time(now) {
		wantErr = api.ErrArg
	}
	if wantErr == nil {
		due := big.NewInt(0)
		if now >= x.Start {
			due.Mul(big.NewInt(int64(x.Q)), big.NewInt(int64(now-x.Start)))
		}
		due.Sub(due, new(big.Int).Mul(big.NewInt(int64(given)), big.NewInt(int64(x.P))))
		if !due.IsInt64() {
			t.Fatalf("%v is no int", due)
		}
		want = int(due.Int64())
	}
	if got, err := Lag(x, given, now); got != want || err != wantErr {
		t.Errorf("Lag(%v, %d, %d) = %d, %v; want %d, %v", x, given, now, got, err, want, wantErr)
	}
}

// ED4: what periods within a stretch ask for: stretches that begin ahead of Start, in the midst of a period, at a boundary; that end so; that go back.
func TestDemand(t *testing.T) {
	for _, c := range []struct {
		l        []Item
		from, to int
		want     int
	}{
		{nil, 0, 100, 0},
		{nil, 0, 1073741824, 0},
		{[]Item{{2, 5, 3}}, 0, 0, 0},
		{[]Item{{2, 5, 3}}, 0, 7, 0},
		{[]Item{{2, 5, 3}}, 0, 8, 2},
		{[]Item{{2, 5, 3}}, 0, 9, 2},
		{[]Item{{2, 5, 3}}, 0, 12, 2},
		{[]Item{{2, 5, 3}}, 0, 13, 4},
		{[]Item{{2, 5, 3}}, 2, 13, 4},
		{[]Item{{2, 5, 3}}, 3, 13, 4},
		{[]Item{{2, 5, 3}}, 4, 13, 2},
		{[]Item{{2, 5, 3}}, 7, 13, 2},
		{[]Item{{2, 5, 3}}, 8, 13, 2},
		{[]Item{{2, 5, 3}}, 9, 13, 0},
		{[]Item{{2, 5, 3}}, 8, 12, 0},
		{[]Item{{2, 5, 3}}, 9, 18, 2},
		{[]Item{{2, 5, 3}}, 9, 17, 0},
		{[]Item{{2, 5, 3}}, 8, 8, 0},
		{[]Item{{2, 5, 3}}, 13, 3, 0},
		{[]Item{{2, 5, 3}}, 13, 0, 0},
		{[]Item{{2, 5, 3}}, 1073741824, 0, 0},
		{[]Item{{1, 1, 0}}, 5, 5, 0},
		{[]Item{{1, 1, 0}}, 5, 6, 1},
		{[]Item{{1, 1, 0}}, 6, 5, 0},
		{[]Item{{2, 5, 3}, {1, 2, 0}}, 0, 13, 10},
		{[]Item{{2, 5, 3}, {2, 5, 3}}, 0, 13, 8},
		{[]Item{{1, 1, 0}}, 0, 1073741824, 1073741824},
		{same(64, Item{1, 1, 0}), 0, 1073741824, 68719476736},
		{same(64, Item{1048576, 1048576, 0}), 0, 1073741824, 68719476736},
		{[]Item{{1048576, 1048576, 0}}, 1, 1073741824, 1072693248},
		{[]Item{{1048576, 1048576, 0}}, 0, 1073741823, 1072693248},
		{[]Item{{1, 1048576, 0}}, 0, 1073741824, 1024},
		{[]Item{{1, 1, 1073741824}}, 0, 1073741824, 0},
		{[]Item{{1, 1, 1073741823}}, 0, 1073741824, 1},
		{[]Item{{1, 1, 1073741823}}, 1073741823, 1073741824, 1},
		{[]Item{{1, 1, 1073741823}}, 1073741824, 1073741824, 0},
		{[]Item{{7, 1048576, 1072693248}}, 0, 1073741824, 7},
		{[]Item{{7, 1048576, 1072693249}}, 0, 1073741824, 0},
		{[]Item{{1, 3, 1}}, 1073741824, 1073741824, 0},
	} {
		if got, err := Demand(c.l, c.from, c.to); got != c.want || err != nil {
			t.Errorf("Demand(%v, %d, %d) = %d, %v; want %d", c.l, c.from, c.to, got, err, c.want)
		}
	}
}

// ED4: from and to of all edges: no time is told ahead of wrong items.
func TestDemandOfEdges(t *testing.T) {
	lists := [][]Item{
		nil, {{5, 1048576, 0}}, {{1048575, 1048575, 4096}, {3, 1048576, 1073741824}}, {{9, 524288, 255}, {1, 1048576, 1}},
		{{0, 2, 0}}, {{1, 2, -1}}, {{1, 2, -1}, {3, 2, 0}}, same(65, Item{1, 64, 0}),
	}
	for _, l := range lists {
		for _, from := range edges {
			for _, to := range edges {
				want, wantErr := 0, errOf(l)
				if !time(from) || !time(to) {
					wantErr = api.ErrArg
				}
				if wantErr == nil {
					want = asked(l, from, to)
				}
				if got, err := Demand(l, from, to); got != want || err != wantErr {
					t.Errorf("Demand(%v, %d, %d) = %d, %v; want %d, %v", l, from, to, got, err, want, wantErr)
				}
			}
		}
	}
}

// ED4: each small item in each small stretch, and rows by chance, held against the periods one by one.
func TestDemandOneByOne(t *testing.T) {
	check := func(l []Item, from, to int) {
		if got, err := Demand(l, from, to); got != asked(l, from, to) || err != nil {
			t.Fatalf("Demand(%v, %d, %d) = %d, %v; want %d", l, from, to, got, err, asked(l, from, to))
		}
	}
	for _, x := range itemsUpTo(6, 9) {
		for from := range 25 {
			for to := range 25 {
				check([]Item{x}, from, to)
			}
		}
	}
	chance := rand.New(rand.NewSource(4))
	for range 20000 {
		check(anyItems(chance, chance.Intn(9), 1+chance.Intn(60), chance.Intn(200)), chance.Intn(300), chance.Intn(300))
	}
}

// stretch is the first stretch within n ticks in which items ask for more than it has.
func stretch(l []Item, n int) (may bool, from, to int) {
	for from := 0; from <= n; from++ {
		for to := from; to <= n; to++ {
			if asked(l, from, to) > to-from {
				return false, from, to
			}
		}
	}
	return true, 0, 0
}

// ED4: the first from, and for it the first to, in which there is too little.
func TestFeasible(t *testing.T) {
	for _, c := range []struct {
		l        []Item
		n        int
		may      bool
		from, to int
	}{
		{nil, 0, true, 0, 0},
		{nil, 256, true, 0, 0},
		{[]Item{{1, 1, 0}}, 256, true, 0, 0},
		{[]Item{{1, 1, 0}, {1, 1, 0}}, 0, true, 0, 0},
		{[]Item{{1, 1, 0}, {1, 1, 0}}, 1, false, 0, 1},
		{[]Item{{1, 1, 0}, {1, 1, 0}}, 256, false, 0, 1},
		{[]Item{{1, 2, 0}, {1, 2, 0}}, 256, true, 0, 0},
		{[]Item{{1, 2, 0}, {2, 3, 0}}, 2, true, 0, 0},
		{[]Item{{1, 2, 0}, {2, 3, 0}}, 5, true, 0, 0},
		{[]Item{{1, 2, 0}, {2, 3, 0}}, 6, false, 0, 6},
		{[]Item{{1, 1, 2}, {1, 1, 2}}, 2, true, 0, 0},
		{[]Item{{1, 1, 2}, {1, 1, 2}}, 3, false, 2, 3},
		{[]Item{{1, 1, 2}, {1, 1, 2}}, 4, false, 1, 4},
		{[]Item{{1, 1, 2}, {1, 1, 2}}, 5, false, 0, 5},
		{[]Item{{1, 1, 2}, {1, 1, 2}}, 256, false, 0, 5},
		{[]Item{{2, 2, 0}, {1, 4, 2}}, 5, true, 0, 0},
		{[]Item{{2, 2, 0}, {1, 4, 2}}, 6, false, 0, 6},
		{[]Item{{1, 1, 255}, {1, 1, 255}}, 255, true, 0, 0},
		{[]Item{{1, 1, 255}, {1, 1, 255}}, 256, false, 255, 256},
		{[]Item{{129, 256, 0}, {128, 256, 0}}, 255, true, 0, 0},
		{[]Item{{129, 256, 0}, {128, 256, 0}}, 256, false, 0, 256},
		{[]Item{{128, 256, 0}, {128, 256, 0}}, 256, true, 0, 0},
		{[]Item{{256, 257, 0}, {256, 257, 0}}, 256, true, 0, 0},
		{[]Item{{1, 1, 0}, {1, 1, 1073741824}}, 256, true, 0, 0},
		{same(64, Item{1, 64, 0}), 256, true, 0, 0},
		{append(same(63, Item{1, 64, 0}), Item{2, 64, 0}), 256, false, 0, 64},
		{same(64, Item{1, 63, 0}), 256, false, 0, 63},
		{same(64, Item{1, 63, 7}), 70, false, 7, 70},
		{same(64, Item{1, 63, 7}), 256, false, 5, 196},
	} {
		may, from, to, err := Feasible(c.l, c.n)
		if may != c.may || from != c.from || to != c.to || err != nil {
			t.Errorf("Feasible(%v, %d) = %v, %d, %d, %v; want %v, %d, %d", c.l, c.n, may, from, to, err, c.may, c.from, c.to)
		}
	}
}

// ED4: n at -1, 0, 256 and one beyond; a wrong n is told ahead of wrong items.
func TestFeasibleOfLengths(t *testing.T) {
	lists := [][]Item{nil, {{1, 2, 0}}, {{1, 1, 0}, {1, 1, 0}}, {{0, 2, 0}}, {{1, 2, -1}}, same(65, Item{1, 64, 0})}
	for _, l := range lists {
		for _, n := range edges {
			wantErr := errOf(l)
			if !within(n, 0, mostLooked) {
				wantErr = api.ErrArg
			}
			wantMay, wantFrom, wantTo := false, 0, 0
			if wantErr == nil {
				wantMay, wantFrom, wantTo = stretch(l, n)
			}
			may, from, to, err := Feasible(l, n)
			if may != wantMay || from != wantFrom || to != wantTo || err != wantErr {
				t.Errorf("Feasible(%v, %d) = %v, %d, %d, %v; want %v, %d, %d, %v", l, n, may, from, to, err, wantMay, wantFrom, wantTo, wantErr)
			}
		}
	}
}

// ED4: rows of items, held against Demand of each stretch.
func TestFeasibleRows(t *testing.T) {
	check := func(l []Item, n int) {
		wantMay, wantFrom, wantTo := stretch(l, n)
		may, from, to, err := Feasible(l, n)
		if may != wantMay || from != wantFrom || to != wantTo || err != nil {
			t.Fatalf("Feasible(%v, %d) = %v, %d, %d, %v; want %v, %d, %d", l, n, may, from, to, err, wantMay, wantFrom, wantTo)
		}
	}
	rowsOf(itemsUpTo(3, 2), 2, func(l []Item) {
		for n := range 9 {
			check(l, n)
		}
	})
	rowsOf(itemsUpTo(5, 5), 2, func(l []Item) { check(l, 13) })
	chance := rand.New(rand.NewSource(5))
	for range 300 {
		check(anyItems(chance, chance.Intn(5), 40, 60), chance.Intn(100))
		check(fitting(chance, 4, 40, 60), chance.Intn(100))
	}
	for range 4 {
		check(anyItems(chance, 2, 200, 200), mostLooked)
	}
}

// ED5: the least number that all periods divide, at its greatest and just beyond.
func TestHyper(t *testing.T) {
	for _, c := range []struct {
		l    []Item
		want int
		err  error
	}{
		{nil, 1, nil},
		{[]Item{}, 1, nil},
		{[]Item{{1, 1, 0}}, 1, nil},
		{[]Item{{1, 4, 0}, {5, 6, 7}, {1, 10, 1073741824}}, 60, nil},
		{[]Item{{1, 7, 0}, {7, 7, 0}}, 7, nil},
		{[]Item{{1, 1048576, 0}}, 1048576, nil},
		{[]Item{{1, 1048576, 0}, {1, 1023, 0}}, 1072693248, nil},
		{[]Item{{1, 32767, 0}, {1, 32769, 0}}, 1073741823, nil},
		{[]Item{{1, 13325, 0}, {1, 80581, 0}}, 0, api.ErrOverflow},
		{[]Item{{1, 1048576, 0}, {1, 1025, 0}}, 0, api.ErrOverflow},
		{[]Item{{1, 1048576, 0}, {1, 1048575, 0}, {1, 1048573, 0}, {1, 1048571, 0}, {1, 1048569, 0}}, 0, api.ErrOverflow},
		{[]Item{{1, 1048576, 0}, {1, 1048575, 0}, {0, 1, 0}}, 0, api.ErrRange},
		{[]Item{{1, 1048576, 0}, {1, 1048575, 0}, {1, 1, -1}}, 0, api.ErrArg},
		{same(64, Item{1, 1048576, 0}), 1048576, nil},
		{same(65, Item{1, 1048576, 0}), 0, api.ErrLong},
		{append(same(64, Item{1, 1048576, 0}), Item{1, 1048575, 0}), 0, api.ErrLong},
		{[]Item{{1, 0, 0}}, 0, api.ErrRange},
		{[]Item{{1, 2, -1}, {3, 2, 0}}, 0, api.ErrArg},
	} {
		if got, err := Hyper(c.l); got != c.want || err != c.err {
			t.Errorf("Hyper(%v) = %d, %v; want %d, %v", c.l, got, err, c.want, c.err)
		}
	}
}

// ED5: rows by chance, held against numbers without a bound.
func TestHyperRows(t *testing.T) {
	chance := rand.New(rand.NewSource(6))
	for range 5000 {
		l := anyItems(chance, chance.Intn(6), 1<<(1+chance.Intn(20)), lastTime)
		want, wantErr := big.NewInt(1), error(nil)
		for _, x := range l {
			p := big.NewInt(int64(x.P))
			want.Mul(want, new(big.Int).Div(p, new(big.Int).GCD(nil, nil, want, p)))
		}
		if want.Cmp(big.NewInt(lastTime)) > 0 {
			want, wantErr = big.NewInt(0), api.ErrOverflow
		}
		if got, err := Hyper(l); int64(got) != want.Int64() || err != wantErr {
			t.Fatalf("Hyper(%v) = %d, %v; want %v, %v", l, got, err, want, wantErr)
		}
	}
}

// ED5: the sum of the shares, each rounded up; above Unit too.
func TestLoad(t *testing.T) {
	for _, c := range []struct {
		l    []Item
		want int
		err  error
	}{
		{nil, 0, nil},
		{[]Item{}, 0, nil},
		{[]Item{{1, 2, 0}}, 524288, nil},
		{[]Item{{1, 3, 5}}, 349526, nil},
		{[]Item{{1, 1, 0}}, 1048576, nil},
		{[]Item{{1, 1048576, 0}}, 1, nil},
		{[]Item{{1, 3, 0}, {1, 3, 1}, {1, 3, 1073741824}}, 1048578, nil},
		{[]Item{{2, 3, 0}, {1, 3, 0}}, 1048577, nil},
		{[]Item{{1, 2, 0}, {1, 2, 0}}, 1048576, nil},
		{[]Item{{1, 2, 0}, {1, 2, 0}, {1, 1048576, 0}}, 1048577, nil},
		{[]Item{{1, 1, 0}, {1, 1, 0}}, 2097152, nil},
		{same(64, Item{1048576, 1048576, 0}), 67108864, nil},
		{same(64, Item{1, 64, 0}), 1048576, nil},
		{same(65, Item{1, 1, 0}), 0, api.ErrLong},
		{[]Item{{1, 2, 0}, {3, 2, 0}}, 0, api.ErrRange},
		{[]Item{{1, 2, 0}, {1, 2, -1}, {3, 2, 0}}, 0, api.ErrArg},
	} {
		if got, err := Load(c.l); got != c.want || err != c.err {
			t.Errorf("Load(%v) = %d, %v; want %d, %v", c.l, got, err, c.want, c.err)
		}
	}
	chance := rand.New(rand.NewSource(7))
	for range 5000 {
		l := anyItems(chance, chance.Intn(65), 1<<(1+chance.Intn(20)), lastTime)
		want := 0
		for _, x := range l {
			want += (x.Q*whole + x.P - 1) / x.P
		}
		if got, err := Load(l); got != want || err != nil {
			t.Fatalf("Load(%v) = %d, %v; want %d", l, got, err, want)
		}
	}
}

// mustPlan is a plan that must be answered.
func mustPlan(t *testing.T, l []Item, n int) []int {
	t.Helper()
	plan, err := Plan(l, n)
	if err != nil {
		t.Fatalf("Plan(%v, %d): %v", l, n, err)
	}
	return plan
}

// missesNone tells whether a plan misses no period, by what Missed answers.
func missesNone(t *testing.T, l []Item, plan []int) bool {
	t.Helper()
	missed, err := Missed(l, plan)
	if err != nil || len(missed) != len(l) {
		t.Fatalf("Missed(%v, %v) = %v, %v", l, plan, missed, err)
	}
	return none(missed)
}

// checkExact holds a plan in which nothing is missed against ED6: each period that lies in it has exactly Q ticks, and the Lag is 0 at its end.
func checkExact(t *testing.T, l []Item, plan []int) {
	t.Helper()
	for place, x := range l {
		for _, p := range periodsOf(x, 0, len(plan)) {
			if got := has(plan, place, p.from, p.to); got != x.Q {
				t.Fatalf("of %v, from %d to %d, item %d has %d ticks of %v", l, p.from, p.to, place, got, plan)
			}
			if lag, err := Lag(x, has(plan, place, 0, p.to), p.to); lag != 0 || err != nil {
				t.Fatalf("of %v, at %d, item %d has the Lag %d, %v", l, p.to, place, lag, err)
			}
		}
	}
}

// checkIdle holds a plan against ED7: a tick is nobody's only where nobody has budget left.
func checkIdle(t *testing.T, l []Item, plan []int) {
	t.Helper()
	for now, whom := range plan {
		for place, x := range l {
			if rest := left(x, place, plan, now); whom == -1 && rest > 0 || whom == place && rest <= 0 {
				t.Fatalf("of %v, at %d of %v, item %d has %d left", l, now, plan, place, rest)
			}
		}
	}
}

// checkTheorem holds Plan, Missed, Feasible and Load against ED6 and ED7.
func checkTheorem(t *testing.T, l []Item, n int) {
	t.Helper()
	plan := mustPlan(t, l, n)
	checkIdle(t, l, plan)
	fine := missesNone(t, l, plan)
	load, err := Load(l)
	if err != nil || load <= whole && !fine {
		t.Fatalf("of %v, with the Load %d, %v, the plan %v misses one", l, load, err, plan)
	}
	if n <= mostLooked {
		may, from, to, err := Feasible(l, n)
		if may != fine || err != nil {
			t.Fatalf("Feasible(%v, %d) = %v, %d, %d, %v; that the plan %v misses none is %v", l, n, may, from, to, err, plan, fine)
		}
	}
	if fine {
		checkExact(t, l, plan)
	}
}

// ED6, ED7: rows of items whose Load is at most Unit, with all sorts of Starts.
func TestLoadOfWholeMissesNone(t *testing.T) {
	chance := rand.New(rand.NewSource(8))
	for _, start := range []int{0, 1, 7, 50, 5000, lastTime} {
		for range 150 {
			checkTheorem(t, fitting(chance, 1+chance.Intn(20), 1+chance.Intn(40), start), chance.Intn(257))
		}
		for range 6 {
			checkTheorem(t, fitting(chance, 1+chance.Intn(6), 400, start), 1000)
		}
	}
	for range 30 {
		checkTheorem(t, fitting(chance, 64, 200, 100), mostLooked)
	}
	checkTheorem(t, same(64, Item{1, 64, 0}), mostLooked)
	checkTheorem(t, []Item{{1, 2, 3}, {1, 4, 1}, {1, 8, 0}, {2, 16, 5}}, mostTicks)
	checkTheorem(t, []Item{{1000, 2048, 0}, {500, 1024, 500}, {3, 4000, 96}}, mostTicks)
}

// ED6, ED7: each row of up to two items of periods up to five, and of up to three of periods up to three: also those whose Load is the whole, or above it.
func TestTheoremOfSmallRows(t *testing.T) {
	rowsOf(itemsUpTo(5, 4), 2, func(l []Item) { checkTheorem(t, l, 27) })
	rowsOf(itemsUpTo(3, 2), 3, func(l []Item) { checkTheorem(t, l, 14) })
}

// ED6: no rule is better: each plan of a few ticks misses one, where not Feasible; where one misses nothing, Plan misses nothing.
func TestNoRuleIsBetter(t *testing.T) {
	check := func(l []Item, n int) {
		best := false
		plansOf(len(l), n, func(plan []int) { best = best || missesNone(t, l, plan) })
		may, _, _, err := Feasible(l, n)
		if may != best || err != nil || best != missesNone(t, l, mustPlan(t, l, n)) {
			t.Fatalf("Feasible(%v, %d) = %v, %v; that a plan misses none is %v; Plan = %v", l, n, may, err, best, mustPlan(t, l, n))
		}
	}
	rowsOf(itemsUpTo(3, 2), 2, func(l []Item) {
		for n := range 7 {
			check(l, n)
		}
	})
	rowsOf(itemsUpTo(3, 0), 3, func(l []Item) { check(l, 5) })
	rowsOf(itemsUpTo(2, 1), 3, func(l []Item) { check(l, 4) })
}

// rules are other ways to choose of those that have budget left: the first place, the last one, the shortest period, the latest end, the least budget, the least slack.
var rules = map[string]func(l []Item, plan []int, now, place int) int{
	"first":    func(l []Item, plan []int, now, place int) int { return place },
	"last":     func(l []Item, plan []int, now, place int) int { return -place },
	"shortest": func(l []Item, plan []int, now, place int) int { return l[place].P },
	"latest":   func(l []Item, plan []int, now, place int) int { return -end(l[place], now) },
	"least":    func(l []Item, plan []int, now, place int) int { return left(l[place], place, plan, now) },
	"slack": func(l []Item, plan []int, now, place int) int {
		return end(l[place], now) - left(l[place], place, plan, now)
	},
	"turns": func(l []Item, plan []int, now, place int) int { return has(plan, place, 0, now) },
}

// planBy is a plan by another rule.
func planBy(l []Item, n int, rule func(l []Item, plan []int, now, place int) int) []int {
	plan := []int{}
	for now := range n {
		best := -1
		for place, x := range l {
			if left(x, place, plan, now) > 0 && (best < 0 || rule(l, plan, now, place) < rule(l, plan, now, best)) {
				best = place
			}
		}
		plan = append(plan, best)
	}
	return plan
}

// ED6: what is not Feasible, held against plans of other rules, and by chance: each misses one; where one of them misses none, Plan misses none.
func TestOtherRules(t *testing.T) {
	chance := rand.New(rand.NewSource(9))
	not, worse := 0, 0
	for range 700 {
		l := anyItems(chance, 1+chance.Intn(4), 12, 20)
		n := 1 + chance.Intn(60)
		may, from, to, err := Feasible(l, n)
		if err != nil {
			t.Fatalf("Feasible(%v, %d): %v", l, n, err)
		}
		plans := [][]int{mustPlan(t, l, n)}
		for _, rule := range rules {
			plans = append(plans, planBy(l, n, rule))
		}
		for range 5 {
			plans = append(plans, planBy(l, n, func([]Item, []int, int, int) int { return chance.Intn(5) }))
		}
		for at, plan := range plans {
			fine := missesNone(t, l, plan)
			if fine && !may || at == 0 && may && !fine {
				t.Fatalf("Feasible(%v, %d) = %v, %d, %d; that %v misses none is %v", l, n, may, from, to, plan, fine)
			}
			if may && !fine {
				worse++
			}
		}
		if !may {
			not++
			if got, err := Demand(l, from, to); got <= to-from || err != nil {
				t.Fatalf("Feasible(%v, %d) = false, %d, %d; Demand = %d, %v", l, n, from, to, got, err)
			}
		}
	}
	if not < 100 || worse < 100 {
		t.Errorf("too few rows are told apart: %d are not Feasible, %d plans are worse than Plan", not, worse)
	}
}

// answers are what all calls tell of items, of children and of a plan, as a text.
func answers(l []Item, children []Child, plan []int) string {
	text := fmt.Sprint(Pick(children), Order(children))
	for _, c := range calls {
		got, err := c.do(l)
		text += fmt.Sprint(" ", c.name, got, err)
	}
	got, err := Missed(l, plan)
	return text + fmt.Sprint(" ", got, err)
}

// Rule 3: lists that are given stay as they are, what lies behind them too, and are not kept.
func TestArgumentsStay(t *testing.T) {
	chance := rand.New(rand.NewSource(10))
	for range 50 {
		items := anyItems(chance, 20, 30, 10)
		plan := planned(items[:10], 40)
		var children []Child
		for range 40 {
			children = append(children, Child{chance.Intn(3), chance.Intn(3), chance.Intn(3)})
		}
		wasItems, wasPlan, wasChildren := slices.Clone(items), slices.Clone(plan), slices.Clone(children)
		first := answers(items[:10], children[:20], plan[:30])
		if !slices.Equal(items, wasItems) || !slices.Equal(plan, wasPlan) || !slices.Equal(children, wasChildren) {
			t.Fatalf("a list that was given is another one")
		}
		clear(items)
		clear(children)
		clear(plan)
		if again := answers(wasItems[:10], wasChildren[:20], wasPlan[:30]); again != first {
			t.Fatalf("%s; then %s", first, again)
		}
	}
}

// spoil changes a list that was answered, its spare room too.
func spoil(l []int) {
	l = l[:cap(l)]
	for at := range l {
		l[at] = -77
	}
}

// Rule 3: each list that is answered may be changed by its caller, and nothing else is changed by that.
func TestAnswersAreNew(t *testing.T) {
	items := []Item{{1, 2, 0}, {1, 3, 1}, {2, 9, 4}}
	children := []Child{{1, 1, 7}, {2, 1, 5}, {3, 0, 1}, {0, 1, 7}}
	plan := []int{0, 1, 0, 2, 2, -1}
	first := answers(items, children, plan)
	lists := func() [][]int {
		ticks, _ := Plan(items, 12)
		noTicks, _ := Plan(items, 0)
		missed, _ := Missed(items, plan)
		noItems, _ := Missed(nil, nil)
		return [][]int{Order(children), Order(nil), ticks, noTicks, missed, noItems}
	}
	all := append(lists(), lists()...)
	for at, l := range all {
		was := []string{}
		for _, other := range all[at+1:] {
			was = append(was, fmt.Sprint(other))
		}
		spoil(l)
		for by, other := range all[at+1:] {
			if fmt.Sprint(other) != was[by] {
				t.Fatalf("list %d changed list %d", at, at+1+by)
			}
		}
		if again := answers(items, children, plan); again != first {
			t.Fatalf("behind list %d: %s; was %s", at, again, first)
		}
	}
	if !slices.Equal(plan, []int{0, 1, 0, 2, 2, -1}) || !slices.Equal(items, []Item{{1, 2, 0}, {1, 3, 1}, {2, 9, 4}}) {
		t.Errorf("arguments: %v, %v", plan, items)
	}
}

// Rules 3 and 4: nil and the empty list are the same, and nothing hangs on what was asked before.
func TestSameAgain(t *testing.T) {
	if a, b := answers(nil, nil, nil), answers([]Item{}, []Child{}, []int{}); a != b {
		t.Errorf("of nil %s; of the empty lists %s", a, b)
	}
	items, children, plan := []Item{{2, 5, 1}, {1, 2, 0}}, []Child{{0, 2, 3}, {1, 1, 1}}, []int{0, 1, 1}
	first := answers(items, children, plan)
	chance := rand.New(rand.NewSource(11))
	for range 100 {
		answers(anyItems(chance, chance.Intn(70), 9, 9), []Child{{5, 1, chance.Intn(9)}}, []int{chance.Intn(9) - 2})
		if again := answers(items, children, plan); again != first {
			t.Fatalf("%s; then %s", first, again)
		}
	}
}

// P7: whatever is asked, each call answers as the chapter's words say. Each byte but the first one is a field of an item, small or at an edge.
func FuzzCalls(f *testing.F) {
	f.Add("")
	f.Add("\x06\x01\x02\x00\x01\x03\x00")
	f.Add("\x10\x01\x02\x00\x02\x03\x00\x03\x08\x05")
	f.Add("\xff\x01\x02\x80\x90\xa0\xb0")
	f.Fuzz(func(t *testing.T, text string) {
		if len(text) == 0 || len(text) > 1+3*70 {
			return
		}
		field := func(b byte) int {
			if b < 128 {
				return int(b)
			}
			return edges[int(b-128)%len(edges)]
		}
		n, l := int(text[0]), []Item{}
		for text = text[1:]; len(text) >= 3; text = text[3:] {
			l = append(l, Item{field(text[0]), field(text[1]), field(text[2])})
		}
		if err := errOf(l); err != nil {
			refused(t, l, err)
			return
		}
		taken(t, l)
		checkPlan(t, l, n)
		checkTheorem(t, l, n)
	})
}
