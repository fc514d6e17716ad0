package bounds

import (
	"math"
	"math/rand"
	"slices"
	"testing"

	"tithe/api"
)

// What the document writes: the longest period, and how many ends there may be.
const (
	longest  = 1048576
	mostEnds = 4096
)

// edges are numbers at which something might change, wrong ones among them; as numbers, as times, as budgets and as periods.
var edges = []int{
	math.MinInt, math.MinInt + 1, -1 << 32, -longest, -2, -1, 0, 1, 2, 3, 4095, 4096, 4097, 8192,
	longest - 1, longest, longest + 1, 2 * longest, 1 << 30, 1<<30 + 1, 1 << 32, 1<<32 + 1, longest * mostEnds, longest*mostEnds + longest,
	math.MaxInt - longest - 1, math.MaxInt - longest, math.MaxInt - 4097, math.MaxInt - 4096, math.MaxInt - 2, math.MaxInt - 1, math.MaxInt,
}

// entry is a number, and when it comes up.
type entry struct{ id, at int }

// model is what a calendar must be like: a plain list of numbers and times, in no order.
type model struct{ list []entry }

// place is where a number stands in the list, or -1.
func (m *model) place(id int) int {
	return slices.IndexFunc(m.list, func(e entry) bool { return e.id == id })
}

// next is the least time of all, and whether there is one.
func (m *model) next() (int, bool) {
	least := 0
	for i, e := range m.list {
		if i == 0 || e.at < least {
			least = e.at
		}
	}
	return least, len(m.list) > 0
}

// take takes out of the list the first one of those whose time is at most till.
func (m *model) take(till int) (int, bool) {
	first := -1
	for i, e := range m.list {
		if e.at <= till && (first < 0 || e.at < m.list[first].at || e.at == m.list[first].at && e.id < m.list[first].id) {
			first = i
		}
	}
	if first < 0 {
		return 0, false
	}
	id := m.list[first].id
	m.list = slices.Delete(m.list, first, first+1)
	return id, true
}

// made is a calendar with numbers and their times, and its model.
func made(t *testing.T, list ...entry) (*Calendar, *model) {
	t.Helper()
	c, m := New(), &model{}
	if c == nil {
		t.Fatal("New() = nil")
	}
	for _, e := range list {
		put(t, c, m, e.id, e.at)
	}
	return c, m
}

// put lays a number into both.
func put(t *testing.T, c *Calendar, m *model, id, at int) {
	t.Helper()
	var want error
	if id < 0 || at < 0 {
		want = api.ErrArg
	} else if place := m.place(id); place >= 0 {
		m.list[place].at = at
	} else {
		m.list = append(m.list, entry{id, at})
	}
	if err := c.Put(id, at); err != want {
		t.Fatalf("Put(%d, %d): %v; want %v", id, at, err, want)
	}
	checkNext(t, c, m)
}

// drop takes a number out of both.
func drop(t *testing.T, c *Calendar, m *model, id int) {
	t.Helper()
	var want error = api.ErrNone
	if place := m.place(id); place >= 0 {
		want = nil
		m.list = slices.Delete(m.list, place, place+1)
	}
	if err := c.Drop(id); err != want {
		t.Fatalf("Drop(%d): %v; want %v", id, err, want)
	}
	checkNext(t, c, m)
}

// due takes what comes up till a time out of both.
func due(t *testing.T, c *Calendar, m *model, till int) []int {
	t.Helper()
	was := slices.Clone(m.list)
	var want []int
	for id, there := m.take(till); there; id, there = m.take(till) {
		want = append(want, id)
	}
	got := c.Due(till)
	if !slices.Equal(got, want) {
		t.Fatalf("Due(%d) = %v; want %v of %v", till, got, want, was)
	}
	if at, there := c.Next(); there && at <= till {
		t.Fatalf("behind Due(%d) Next() = %d", till, at)
	}
	checkNext(t, c, m)
	return got
}

// checkNext holds Next and Len against a model.
func checkNext(t *testing.T, c *Calendar, m *model) {
	t.Helper()
	want, wantThere := m.next()
	if at, there := c.Next(); at != want || there != wantThere {
		t.Fatalf("Next() = %d, %v; want %d, %v of %v", at, there, want, wantThere, m.list)
	}
	if n := c.Len(); n != len(m.list) {
		t.Fatalf("Len() = %d; want %d", n, len(m.list))
	}
}

// check holds a calendar against a model in all that can be asked without changing it.
func check(t *testing.T, c *Calendar, m *model) {
	t.Helper()
	checkNext(t, c, m)
	for _, e := range m.list {
		if at, there := c.At(e.id); at != e.at || !there {
			t.Fatalf("At(%d) = %d, %v; want %d", e.id, at, there, e.at)
		}
	}
}

// checkWrong asks a calendar for what is not in, and puts in what can't be: nothing is changed.
func checkWrong(t *testing.T, c *Calendar, m *model) {
	t.Helper()
	for _, id := range append(slices.Clone(edges), 7, 1000) {
		if m.place(id) < 0 {
			if at, there := c.At(id); at != 0 || there {
				t.Fatalf("At(%d) = %d, %v", id, at, there)
			}
			drop(t, c, m, id)
		}
	}
	for _, wrong := range []int{math.MinInt, -longest, -1} {
		put(t, c, m, wrong, 3)
		put(t, c, m, 3, wrong)
		put(t, c, m, wrong, wrong)
		for _, e := range slices.Clone(m.list) {
			put(t, c, m, e.id, wrong)
		}
		due(t, c, m, wrong)
	}
	check(t, c, m)
}

// dueAll takes all out, time by time: nothing is left.
func dueAll(t *testing.T, c *Calendar, m *model) {
	t.Helper()
	for at, there := c.Next(); there; at, there = c.Next() {
		if at > 0 && len(due(t, c, m, at-1)) != 0 {
			t.Fatalf("ahead of Next() = %d something came up", at)
		}
		if len(due(t, c, m, at)) == 0 {
			t.Fatalf("at Next() = %d nothing came up", at)
		}
	}
	if len(m.list) != 0 {
		t.Fatalf("nothing is next; %v are in", m.list)
	}
	due(t, c, m, math.MaxInt)
	check(t, c, m)
}

// orders are all orders of these entries.
func orders(list []entry) [][]entry {
	if len(list) == 0 {
		return [][]entry{nil}
	}
	var all [][]entry
	for i, e := range list {
		for _, l := range orders(slices.Delete(slices.Clone(list), i, i+1)) {
			all = append(all, append([]entry{e}, l...))
		}
	}
	return all
}

// BO1, BO2: the chapter's examples of a calendar.
func TestExamples(t *testing.T) {
	c := New()
	for _, e := range []entry{{2, 30}, {1, 30}, {3, 10}} {
		if err := c.Put(e.id, e.at); err != nil {
			t.Errorf("Put(%d, %d): %v", e.id, e.at, err)
		}
	}
	if at, there := c.Next(); at != 10 || !there {
		t.Errorf("Next() = %d, %v", at, there)
	}
	if l := c.Due(30); !slices.Equal(l, []int{3, 1, 2}) {
		t.Errorf("Due(30) = %v", l)
	}
	c = New()
	if err := c.Put(1, 5); err != nil {
		t.Errorf("Put(1, 5): %v", err)
	}
	if err := c.Put(1, 9); err != nil {
		t.Errorf("Put(1, 9): %v", err)
	}
	if l := c.Due(5); len(l) != 0 {
		t.Errorf("Due(5) = %v", l)
	}
	if at, there := c.At(1); at != 9 || !there {
		t.Errorf("At(1) = %d, %v", at, there)
	}
}

// BO3: the chapter's example of ends.
func TestExampleOfEnds(t *testing.T) {
	if l, err := Ends(api.Reserve{Q: 1, P: 4}, 2, 11); !slices.Equal(l, []int{6, 10}) || err != nil {
		t.Errorf("Ends({1, 4}, 2, 11) = %v, %v", l, err)
	}
}

// BO1, BO2: a calendar of none: nothing is next, nothing comes up, nothing is in.
func TestNone(t *testing.T) {
	c, m := made(t)
	if at, there := c.Next(); at != 0 || there {
		t.Errorf("Next() = %d, %v", at, there)
	}
	if n := c.Len(); n != 0 {
		t.Errorf("Len() = %d", n)
	}
	for _, n := range edges {
		if l := c.Due(n); len(l) != 0 {
			t.Errorf("Due(%d) = %v", n, l)
		}
		if at, there := c.At(n); at != 0 || there {
			t.Errorf("At(%d) = %d, %v", n, at, there)
		}
		if err := c.Drop(n); err != api.ErrNone {
			t.Errorf("Drop(%d): %v", n, err)
		}
	}
	checkWrong(t, c, m)
}

// BO1: a number, or a time, below 0 is refused, be the other one good or not; 0 and the greatest int are taken.
func TestPutOfEdges(t *testing.T) {
	for _, id := range edges {
		for _, at := range edges {
			c, m := made(t)
			put(t, c, m, id, at)
			if got := c.Len() == 1; got != (id >= 0 && at >= 0) {
				t.Errorf("behind Put(%d, %d) Len() = %d", id, at, c.Len())
			}
			checkWrong(t, c, m)
			dueAll(t, c, m)
			put(t, c, m, 5, 50)
			put(t, c, m, id, at)
			put(t, c, m, 5, at)
			put(t, c, m, 0, 0)
			checkWrong(t, c, m)
			dueAll(t, c, m)
		}
	}
}

// BO1: the errors themselves, of a calendar with 3 in: it stays what it was.
func TestPutWrong(t *testing.T) {
	for _, e := range []entry{{-1, 0}, {0, -1}, {-1, -1}, {math.MinInt, 5}, {5, math.MinInt}, {math.MinInt, math.MinInt}, {-1, math.MaxInt}, {math.MaxInt, -1}, {3, -1}, {3, math.MinInt}} {
		c, m := made(t, entry{3, 10})
		if err := c.Put(e.id, e.at); err != api.ErrArg {
			t.Errorf("Put(%d, %d): %v", e.id, e.at, err)
		}
		if at, there := c.At(3); at != 10 || !there {
			t.Errorf("behind Put(%d, %d) At(3) = %d, %v", e.id, e.at, at, there)
		}
		check(t, c, m)
		dueAll(t, c, m)
	}
}

// BO1, BO2, BO4: one number, at one time: it comes up at that time, and once.
func TestOne(t *testing.T) {
	for _, id := range []int{0, 1, 63, math.MaxInt} {
		for _, at := range []int{0, 1, 30, math.MaxInt - 1, math.MaxInt} {
			c, m := made(t, entry{id, at})
			if got, there := c.Next(); got != at || !there {
				t.Errorf("Next() = %d, %v; want %d", got, there, at)
			}
			if got, there := c.At(id); got != at || !there {
				t.Errorf("At(%d) = %d, %v; want %d", id, got, there, at)
			}
			checkWrong(t, c, m)
			if l := due(t, c, m, at-1); len(l) != 0 {
				t.Errorf("Due(%d) = %v; %d comes up at %d", at-1, l, id, at)
			}
			if l := due(t, c, m, at); !slices.Equal(l, []int{id}) {
				t.Errorf("Due(%d) = %v", at, l)
			}
			if l := due(t, c, m, at); len(l) != 0 {
				t.Errorf("Due(%d) = %v again", at, l)
			}
			if l := due(t, c, m, math.MaxInt); len(l) != 0 {
				t.Errorf("Due = %v behind all", l)
			}
			checkWrong(t, c, m)
		}
	}
}

// BO1, BO4: a number that is put again comes up at its new time alone, be that ahead of its first one, behind it or the same.
func TestPutAgain(t *testing.T) {
	for _, first := range []int{0, 1, 9, 10, 11, math.MaxInt} {
		for _, second := range []int{0, 1, 9, 10, 11, math.MaxInt} {
			for _, beside := range [][]entry{nil, {{4, 10}}, {{6, 10}}, {{4, 10}, {6, 10}, {7, 0}, {8, math.MaxInt}}} {
				c, m := made(t, beside...)
				put(t, c, m, 5, first)
				put(t, c, m, 5, second)
				check(t, c, m)
				if at, there := c.At(5); at != second || !there || c.Len() != len(beside)+1 {
					t.Errorf("At(5) = %d, %v; want %d; Len() = %d", at, there, second, c.Len())
				}
				if slices.Contains(due(t, c, m, second-1), 5) {
					t.Errorf("put at %d, then at %d: it came up too early", first, second)
				}
				if l := due(t, c, m, second); !slices.Contains(l, 5) {
					t.Errorf("put at %d, then at %d: Due(%d) = %v", first, second, second, l)
				}
				if l := due(t, c, m, math.MaxInt); slices.Contains(l, 5) {
					t.Errorf("put at %d, then at %d: it came up twice", first, second)
				}
			}
		}
	}
}

// BO1, BO4: a number that came up, or was dropped, may be put again, at a time ahead of, at and behind its last one.
func TestPutBack(t *testing.T) {
	for _, at := range []int{0, 9, 10, 11, math.MaxInt} {
		c, m := made(t, entry{5, 10}, entry{6, 20})
		due(t, c, m, 10)
		if _, there := c.At(5); there {
			t.Error("it came up, and is in still")
		}
		put(t, c, m, 5, at)
		check(t, c, m)
		drop(t, c, m, 5)
		if _, there := c.At(5); there {
			t.Error("it was dropped, and is in still")
		}
		drop(t, c, m, 5)
		put(t, c, m, 5, at)
		checkWrong(t, c, m)
		if l := due(t, c, m, at); !slices.Contains(l, 5) {
			t.Errorf("Due(%d) = %v", at, l)
		}
		put(t, c, m, 5, at)
		dueAll(t, c, m)
	}
}

// BO1: what is dropped does not come up; the others do.
func TestDrop(t *testing.T) {
	list := []entry{{0, 10}, {1, 5}, {2, 10}, {3, 5}, {4, 0}, {5, math.MaxInt}}
	for _, e := range list {
		c, m := made(t, list...)
		drop(t, c, m, e.id)
		if at, there := c.At(e.id); at != 0 || there {
			t.Errorf("At(%d) = %d, %v", e.id, at, there)
		}
		checkWrong(t, c, m)
		if l := due(t, c, m, math.MaxInt); len(l) != len(list)-1 || slices.Contains(l, e.id) {
			t.Errorf("without %d Due = %v", e.id, l)
		}
		drop(t, c, m, e.id)
	}
	for _, l := range orders(list[:5]) {
		c, m := made(t, list...)
		for _, e := range l {
			drop(t, c, m, e.id)
			check(t, c, m)
		}
		dueAll(t, c, m)
	}
}

// BO1: Next behind each of Put, Drop and Due.
func TestNext(t *testing.T) {
	c, m := made(t)
	next := func(call string, want int, wantThere bool) {
		t.Helper()
		for range 2 {
			if at, there := c.Next(); at != want || there != wantThere {
				t.Errorf("behind %s Next() = %d, %v; want %d, %v", call, at, there, want, wantThere)
			}
		}
	}
	next("New", 0, false)
	put(t, c, m, 4, 20)
	next("the first Put", 20, true)
	put(t, c, m, 3, 30)
	next("a Put behind it", 20, true)
	put(t, c, m, 2, 10)
	next("a Put ahead of it", 10, true)
	put(t, c, m, 1, 10)
	next("a Put at it", 10, true)
	drop(t, c, m, 2)
	next("Drop of one of the two that are next", 10, true)
	put(t, c, m, 1, 25)
	next("a Put of the next one, to a later time", 20, true)
	put(t, c, m, 3, 0)
	next("a Put of the last one, to 0", 0, true)
	due(t, c, m, -1)
	next("Due ahead of all", 0, true)
	due(t, c, m, 19)
	next("Due of one", 20, true)
	drop(t, c, m, 4)
	next("Drop of the next one", 25, true)
	drop(t, c, m, 4)
	next("Drop of none", 25, true)
	c.Put(-1, 1)
	next("a Put that is refused", 25, true)
	c.Put(1, -1)
	next("another one that is refused", 25, true)
	due(t, c, m, 25)
	next("Due of the last one", 0, false)
	put(t, c, m, 0, 0)
	next("a Put at 0", 0, true)
	drop(t, c, m, 0)
	next("Drop of the last one", 0, false)
}

// BO2, BO4: Due at times of all sorts: ahead of all, at one, between two, at all, at the same one twice, below 0, at the greatest int.
func TestDue(t *testing.T) {
	list := []entry{{9, 10}, {2, 20}, {4, 20}, {1, 40}, {0, math.MaxInt}}
	for _, d := range []struct {
		till int
		want []int
	}{
		{math.MinInt, nil}, {-1, nil}, {0, nil}, {9, nil},
		{10, []int{9}}, {11, []int{9}}, {19, []int{9}},
		{20, []int{9, 2, 4}}, {21, []int{9, 2, 4}}, {39, []int{9, 2, 4}},
		{40, []int{9, 2, 4, 1}}, {math.MaxInt - 1, []int{9, 2, 4, 1}},
		{math.MaxInt, []int{9, 2, 4, 1, 0}},
	} {
		c, m := made(t, list...)
		if l := due(t, c, m, d.till); !slices.Equal(l, d.want) {
			t.Errorf("Due(%d) = %v; want %v", d.till, l, d.want)
		}
		check(t, c, m)
		if l := due(t, c, m, d.till); len(l) != 0 {
			t.Errorf("Due(%d) = %v again", d.till, l)
		}
		for _, id := range d.want {
			if at, there := c.At(id); at != 0 || there {
				t.Errorf("behind Due(%d) At(%d) = %d, %v", d.till, id, at, there)
			}
		}
		due(t, c, m, d.till-1)
		checkWrong(t, c, m)
		dueAll(t, c, m)
	}
}

// BO2: what is put at 0 is not due below 0, and is at 0.
func TestDueAtZero(t *testing.T) {
	c, m := made(t, entry{1, 0}, entry{0, 0}, entry{2, 1})
	for _, till := range []int{math.MinInt, -longest, -1} {
		if l := due(t, c, m, till); len(l) != 0 {
			t.Errorf("Due(%d) = %v", till, l)
		}
	}
	if l := due(t, c, m, 0); !slices.Equal(l, []int{0, 1}) {
		t.Errorf("Due(0) = %v", l)
	}
	if l := due(t, c, m, -1); len(l) != 0 {
		t.Errorf("Due(-1) = %v", l)
	}
	dueAll(t, c, m)
}

// BO2: in whatever order they were put, they come by their times, and of the same time by their numbers; one Due at the end, or one at each time.
func TestOrders(t *testing.T) {
	for _, list := range [][]entry{
		{{0, 7}, {1, 7}, {2, 7}, {3, 7}, {4, 7}, {math.MaxInt, 7}},
		{{5, 1}, {4, 2}, {3, 3}, {2, 4}, {1, 5}, {0, 6}},
		{{3, 1}, {1, 2}, {5, 2}, {0, 3}, {2, 3}, {4, 3}},
		{{4, 0}, {9, 0}, {3, math.MaxInt - 1}, {0, math.MaxInt}, {1, math.MaxInt}, {math.MaxInt, math.MaxInt}},
	} {
		var want []int
		for _, e := range list {
			want = append(want, e.id)
		}
		for _, l := range orders(list) {
			c, m := made(t, l...)
			if got := due(t, c, m, math.MaxInt); !slices.Equal(got, want) {
				t.Fatalf("put as %v: Due = %v; want %v", l, got, want)
			}
			c, m = made(t, l...)
			dueAll(t, c, m)
		}
	}
}

// BO2: of the same time the numbers decide, be they moved there, or put there.
func TestSameTime(t *testing.T) {
	c, m := made(t)
	for id := range 40 {
		put(t, c, m, id*7%40, id*11%13)
	}
	for id := range 40 {
		put(t, c, m, id*3%40, 50)
	}
	var want []int
	for id := range 40 {
		want = append(want, id)
	}
	if l := due(t, c, m, 50); !slices.Equal(l, want) {
		t.Errorf("Due(50) = %v", l)
	}
}

// BO1, BO2: At, Len and Next change nothing, be they asked ever so often, and neither does Due ahead of all.
func TestAskedAgain(t *testing.T) {
	c, m := made(t, entry{3, 5}, entry{1, 5}, entry{2, 4}, entry{0, 6})
	for range 20 {
		check(t, c, m)
		due(t, c, m, 3)
	}
	dueAll(t, c, m)
}

// ends are the ends by the rule's words, reckoned back from the last time, with its numbers written out.
func ends(r api.Reserve, from, to int) ([]int, error) {
	if from < 0 || to < from {
		return nil, api.ErrArg
	}
	if r.P < 1 || r.P > longest || r.Q < 1 || r.Q > r.P {
		return nil, api.ErrRange
	}
	var l []int
	for rest := to - from; rest >= r.P; {
		rest -= r.P
		if l = append(l, to-rest); len(l) > mostEnds {
			return nil, api.ErrLong
		}
	}
	return l, nil
}

// checkEnds holds Ends against the rule's words.
func checkEnds(t *testing.T, r api.Reserve, from, to int) {
	t.Helper()
	want, wantErr := ends(r, from, to)
	got, err := Ends(r, from, to)
	if !slices.Equal(got, want) || err != wantErr {
		t.Fatalf("Ends(%v, %d, %d) = %v, %v; want %v, %v", r, from, to, got, err, want, wantErr)
	}
}

// BO3: ends of all sorts: to at from, just ahead of an end, at an end, far behind; from at 0 and near the greatest int.
func TestEnds(t *testing.T) {
	const top = math.MaxInt
	for _, c := range []struct {
		r        api.Reserve
		from, to int
		want     []int
	}{
		{api.Reserve{Q: 1, P: 4}, 0, 0, nil},
		{api.Reserve{Q: 1, P: 4}, 0, 3, nil},
		{api.Reserve{Q: 1, P: 4}, 0, 4, []int{4}},
		{api.Reserve{Q: 4, P: 4}, 0, 4, []int{4}},
		{api.Reserve{Q: 1, P: 4}, 0, 5, []int{4}},
		{api.Reserve{Q: 1, P: 4}, 0, 7, []int{4}},
		{api.Reserve{Q: 3, P: 4}, 0, 8, []int{4, 8}},
		{api.Reserve{Q: 1, P: 4}, 2, 2, nil},
		{api.Reserve{Q: 1, P: 4}, 2, 5, nil},
		{api.Reserve{Q: 1, P: 4}, 2, 6, []int{6}},
		{api.Reserve{Q: 1, P: 4}, 2, 9, []int{6}},
		{api.Reserve{Q: 1, P: 4}, 2, 10, []int{6, 10}},
		{api.Reserve{Q: 1, P: 4}, 3, 10, []int{7}},
		{api.Reserve{Q: 1, P: 1}, 0, 0, nil},
		{api.Reserve{Q: 1, P: 1}, 0, 3, []int{1, 2, 3}},
		{api.Reserve{Q: 1, P: 1}, 7, 9, []int{8, 9}},
		{api.Reserve{Q: 1, P: longest}, 0, longest - 1, nil},
		{api.Reserve{Q: 1, P: longest}, 0, longest, []int{longest}},
		{api.Reserve{Q: longest, P: longest}, 1, longest, nil},
		{api.Reserve{Q: longest, P: longest}, 1, 2*longest + 1, []int{longest + 1, 2*longest + 1}},
		{api.Reserve{Q: 1, P: 4}, top, top, nil},
		{api.Reserve{Q: 1, P: 1}, top, top, nil},
		{api.Reserve{Q: 1, P: longest}, top, top, nil},
		{api.Reserve{Q: 1, P: 1}, top - 1, top, []int{top}},
		{api.Reserve{Q: 1, P: 4}, top - 3, top, nil},
		{api.Reserve{Q: 1, P: 4}, top - 4, top, []int{top}},
		{api.Reserve{Q: 1, P: 4}, top - 5, top, []int{top - 1}},
		{api.Reserve{Q: 1, P: 4}, top - 8, top, []int{top - 4, top}},
		{api.Reserve{Q: 1, P: 4}, top - 8, top - 1, []int{top - 4}},
		{api.Reserve{Q: 7, P: longest}, top - longest + 1, top, nil},
		{api.Reserve{Q: 7, P: longest}, top - longest, top, []int{top}},
		{api.Reserve{Q: 7, P: longest}, top - longest - 1, top, []int{top - 1}},
	} {
		if got, err := Ends(c.r, c.from, c.to); !slices.Equal(got, c.want) || err != nil {
			t.Errorf("Ends(%v, %d, %d) = %v, %v; want %v", c.r, c.from, c.to, got, err, c.want)
		}
		checkEnds(t, c.r, c.from, c.to)
	}
}

// BO3: wrong inputs: the error that the rule names, and no list.
func TestEndsWrong(t *testing.T) {
	good := api.Reserve{Q: 1, P: 4}
	for _, c := range []struct {
		r        api.Reserve
		from, to int
		err      error
	}{
		{good, -1, 10, api.ErrArg},
		{good, math.MinInt, math.MaxInt, api.ErrArg},
		{good, -1, -1, api.ErrArg},
		{good, math.MinInt, math.MinInt, api.ErrArg},
		{good, 0, -1, api.ErrArg},
		{good, 10, 9, api.ErrArg},
		{good, 10, math.MinInt, api.ErrArg},
		{good, math.MaxInt, math.MaxInt - 1, api.ErrArg},
		{good, math.MaxInt, math.MinInt, api.ErrArg},
		{good, math.MaxInt, 0, api.ErrArg},
		{api.Reserve{}, 0, 10, api.ErrRange},
		{api.Reserve{Q: 0, P: 4}, 0, 10, api.ErrRange},
		{api.Reserve{Q: -1, P: 4}, 0, 10, api.ErrRange},
		{api.Reserve{Q: 1, P: 0}, 0, 10, api.ErrRange},
		{api.Reserve{Q: 1, P: -1}, 0, 10, api.ErrRange},
		{api.Reserve{Q: 0, P: 0}, 3, 3, api.ErrRange},
		{api.Reserve{Q: -1, P: -1}, 0, 10, api.ErrRange},
		{api.Reserve{Q: 5, P: 4}, 0, 10, api.ErrRange},
		{api.Reserve{Q: 2, P: 1}, 0, 0, api.ErrRange},
		{api.Reserve{Q: 1, P: 1048577}, 0, 10, api.ErrRange},
		{api.Reserve{Q: 1048577, P: 1048577}, 0, 10, api.ErrRange},
		{api.Reserve{Q: 1048577, P: 1048576}, 0, 10, api.ErrRange},
		{api.Reserve{Q: math.MinInt, P: math.MinInt}, 0, 10, api.ErrRange},
		{api.Reserve{Q: math.MaxInt, P: math.MaxInt}, 0, 10, api.ErrRange},
		{api.Reserve{Q: 1, P: 1}, 0, 4097, api.ErrLong},
		{api.Reserve{Q: 1, P: 1}, 0, math.MaxInt, api.ErrLong},
		{api.Reserve{Q: 1, P: longest}, 0, math.MaxInt, api.ErrLong},
		{api.Reserve{Q: longest, P: longest}, 5, 5 + 4097*longest, api.ErrLong},
		{api.Reserve{Q: 1, P: 1}, math.MaxInt - 4097, math.MaxInt, api.ErrLong},
		{api.Reserve{Q: 1, P: 2}, math.MaxInt - 8194, math.MaxInt, api.ErrLong},
		// Two faults at once, and three.
		{api.Reserve{}, -1, 10, api.ErrArg},
		{api.Reserve{}, 10, 9, api.ErrArg},
		{api.Reserve{Q: 5, P: 4}, -1, -2, api.ErrArg},
		{api.Reserve{Q: 1, P: 1}, -1, 5000, api.ErrArg},
		{api.Reserve{Q: 1, P: 0}, -1, math.MaxInt, api.ErrArg},
		{api.Reserve{Q: 2, P: 1}, 0, 5000, api.ErrRange},
		{api.Reserve{Q: 0, P: 1}, 0, 4097, api.ErrRange},
		{api.Reserve{Q: 0, P: 0}, 0, math.MaxInt, api.ErrRange},
		{api.Reserve{Q: 1, P: 1048577}, 0, math.MaxInt, api.ErrRange},
	} {
		if got, err := Ends(c.r, c.from, c.to); len(got) != 0 || err != c.err {
			t.Errorf("Ends(%v, %d, %d) = %v, %v; want %v", c.r, c.from, c.to, got, err, c.err)
		}
		checkEnds(t, c.r, c.from, c.to)
	}
}

// BO3: just MaxTrace ends are answered, one more leads to ErrLong; of short periods and of long ones, near 0 and near the greatest int.
func TestMostEnds(t *testing.T) {
	for _, p := range []int{1, 2, 3, 1000, longest - 1, longest} {
		r := api.Reserve{Q: 1, P: p}
		for _, from := range []int{0, 1, 77, 1 << 30, math.MaxInt - 4097*p - 1, math.MaxInt - 4097*p} {
			for _, to := range []int{from + 4096*p, from + 4097*p - 1} {
				l, err := Ends(r, from, to)
				if len(l) != 4096 || err != nil || l[0] != from+p || l[4095] != from+4096*p {
					t.Errorf("Ends(%v, %d, %d): %d ends, %v", r, from, to, len(l), err)
				}
				checkEnds(t, r, from, to)
			}
			if l, err := Ends(r, from, from+4095*p); len(l) != 4095 || err != nil {
				t.Errorf("Ends(%v, %d, %d): %d ends, %v", r, from, from+4095*p, len(l), err)
			}
			if l, err := Ends(r, from, from+4097*p); len(l) != 0 || err != api.ErrLong {
				t.Errorf("Ends(%v, %d, %d): %d ends, %v", r, from, from+4097*p, len(l), err)
			}
		}
	}
	if l, err := Ends(api.Reserve{Q: 1, P: 1}, math.MaxInt-4096, math.MaxInt); len(l) != 4096 || err != nil || l[4095] != math.MaxInt {
		t.Errorf("up to the greatest int: %d ends, %v", len(l), err)
	}
}

// BO3: all edges as Q, P, from and to.
func TestEndsOfEdges(t *testing.T) {
	for _, q := range []int{math.MinInt, -1, 0, 1, 2, longest - 1, longest, longest + 1, math.MaxInt} {
		for _, p := range []int{math.MinInt, -1, 0, 1, 2, longest - 1, longest, longest + 1, math.MaxInt} {
			for _, from := range edges {
				for _, to := range edges {
					checkEnds(t, api.Reserve{Q: q, P: p}, from, to)
				}
			}
		}
	}
}

// BO3: each small reservation in each small stretch, and others by chance.
func TestEndsOfAll(t *testing.T) {
	for p := -1; p <= 6; p++ {
		for q := -1; q <= 7; q++ {
			for from := -1; from <= 8; from++ {
				for to := from - 2; to <= from+20; to++ {
					checkEnds(t, api.Reserve{Q: q, P: p}, from, to)
				}
			}
		}
	}
	chance := rand.New(rand.NewSource(1))
	for range 2000 {
		p := 1 + chance.Intn(1<<(1+chance.Intn(20)))
		from := chance.Intn(1 << (1 + chance.Intn(40)))
		checkEnds(t, api.Reserve{Q: 1 + chance.Intn(p), P: p}, from, from+chance.Intn(4200*p))
	}
}

// step is one call of a row.
type step struct {
	kind, id, at int
}

// do does one step to both.
func do(t *testing.T, c *Calendar, m *model, s step) {
	t.Helper()
	switch s.kind {
	case 0:
		put(t, c, m, s.id, s.at)
	case 1:
		drop(t, c, m, s.id)
	default:
		due(t, c, m, s.at)
	}
}

// BO1, BO2, BO4: each row of four calls with three numbers and three times.
func TestAllRows(t *testing.T) {
	var steps []step
	for id := range 3 {
		steps = append(steps, step{1, id, 0})
		for at := range 3 {
			steps = append(steps, step{0, id, at})
		}
	}
	for till := -1; till < 3; till++ {
		steps = append(steps, step{2, 0, till})
	}
	var grow func(row []step)
	grow = func(row []step) {
		c, m := made(t)
		for _, s := range row {
			do(t, c, m, s)
			check(t, c, m)
		}
		if len(row) == 4 {
			dueAll(t, c, m)
			return
		}
		for _, s := range steps {
			grow(append(slices.Clip(row), s))
		}
	}
	grow(nil)
}

// BO1, BO2, BO4: rows of calls by chance, held against a plain list of numbers and times.
func TestRows(t *testing.T) {
	for seed := range 80 {
		chance := rand.New(rand.NewSource(int64(seed)))
		c, m := made(t)
		ids, times := 1+chance.Intn(80), 1+chance.Intn(60)
		for at := range 600 {
			switch chance.Intn(10) {
			case 0:
				drop(t, c, m, chance.Intn(ids))
			case 1:
				due(t, c, m, chance.Intn(times)-2)
			case 2:
				next, _ := c.Next()
				due(t, c, m, next+chance.Intn(3)-1)
			default:
				put(t, c, m, chance.Intn(ids+1)-1, chance.Intn(times+1)-1)
			}
			check(t, c, m)
			if at%50 == 0 {
				checkWrong(t, c, m)
			}
		}
		dueAll(t, c, m)
	}
}

// BO1, BO2, BO4: rows of calls by chance with numbers and times at the edges.
func TestRowsOfEdges(t *testing.T) {
	for seed := range 40 {
		chance := rand.New(rand.NewSource(int64(seed)))
		c, m := made(t)
		for range 400 {
			do(t, c, m, step{max(0, chance.Intn(8)-5), edges[chance.Intn(len(edges))], edges[chance.Intn(len(edges))]})
			check(t, c, m)
		}
		dueAll(t, c, m)
	}
}

// BO4: as kernels do it: time goes on, and what comes up is put in again a period later: each number comes up at each of its ends (as Ends tells them), and at no other time.
func TestComesUpOnce(t *testing.T) {
	reserves := []api.Reserve{{Q: 1, P: 1}, {Q: 1, P: 2}, {Q: 2, P: 3}, {Q: 3, P: 6}, {Q: 5, P: 7}, {Q: 1, P: 30}, {Q: 9, P: 500}}
	const last = 400
	c := New()
	for id, r := range reserves {
		if err := c.Put(id, id+r.P); err != nil {
			t.Fatal(err)
		}
	}
	came := make([][]int, len(reserves))
	for now := range last + 1 {
		ids := c.Due(now)
		if !slices.IsSorted(ids) {
			t.Errorf("Due(%d) = %v", now, ids)
		}
		for _, id := range ids {
			came[id] = append(came[id], now)
			if err := c.Put(id, now+reserves[id].P); err != nil {
				t.Fatal(err)
			}
		}
		if at, there := c.Next(); !there || at <= now || c.Len() != len(reserves) {
			t.Fatalf("at %d Next() = %d, %v; Len() = %d", now, at, there, c.Len())
		}
	}
	for id, r := range reserves {
		want, err := Ends(r, id, last)
		if !slices.Equal(came[id], want) || err != nil {
			t.Errorf("%v came up at %v; Ends = %v, %v", r, came[id], want, err)
		}
	}
}

// BO4: so many times as a number that was out was put in and was not dropped, it comes up.
func TestAsOftenAsPut(t *testing.T) {
	chance := rand.New(rand.NewSource(2))
	c, owed := New(), make([]int, 30)
	came := func(ids []int) {
		for _, id := range ids {
			owed[id]--
		}
	}
	for now := range 5000 {
		id := chance.Intn(len(owed))
		if _, there := c.At(id); !there {
			owed[id]++
		}
		if err := c.Put(id, now+chance.Intn(40)); err != nil {
			t.Fatal(err)
		}
		if gone := chance.Intn(len(owed)); chance.Intn(4) == 0 && c.Drop(gone) == nil {
			owed[gone]--
		}
		came(c.Due(now))
		for id, n := range owed {
			if _, there := c.At(id); n < 0 || n > 1 || there != (n == 1) {
				t.Fatalf("at %d: %d is to come up %d times; in: %v", now, id, n, there)
			}
		}
	}
	came(c.Due(math.MaxInt))
	if slices.ContainsFunc(owed, func(n int) bool { return n != 0 }) || c.Len() != 0 {
		t.Errorf("%v are to come; Len() = %d", owed, c.Len())
	}
}

// BO1, BO2: a calendar may be large: a call that went through all numbers would be seen here.
func TestLarge(t *testing.T) {
	const many = 1 << 17
	c := New()
	for id := range many {
		if err := c.Put(id, id*7919%many); err != nil {
			t.Fatalf("Put(%d): %v", id, err)
		}
	}
	for id := 0; id < many; id += 2 {
		if err := c.Put(id, many+id); err != nil {
			t.Fatalf("Put(%d) again: %v", id, err)
		}
	}
	for id := 1; id < many; id += 4 {
		if err := c.Drop(id); err != nil {
			t.Fatalf("Drop(%d): %v", id, err)
		}
	}
	came := 0
	for till := -1; till < many; till++ {
		for _, id := range c.Due(till) {
			if came++; id%4 != 3 || id*7919%many != till {
				t.Fatalf("Due(%d) has %d", till, id)
			}
		}
	}
	rest := c.Due(math.MaxInt)
	if came != many/4 || len(rest) != many/2 || c.Len() != 0 {
		t.Fatalf("%d came up, then %d; %d are left", came, len(rest), c.Len())
	}
	for i, id := range rest {
		if id != 2*i {
			t.Fatalf("%d comes up as number %d", id, i)
		}
	}
}

// spoil changes a list that was answered, its spare room too.
func spoil(l []int) {
	l = l[:cap(l)]
	for i := range l {
		l[i] = -77
	}
}

// Rule 3: what Due answered may be changed by its caller, its spare room too: neither the calendar nor another list is changed by that.
func TestDueIsNew(t *testing.T) {
	c, m := made(t)
	for id := range 60 {
		put(t, c, m, id, id*17%20)
	}
	var lists, copies [][]int
	for till := -1; till < 15; till += 2 {
		l := due(t, c, m, till)
		lists, copies = append(lists, l), append(copies, slices.Clone(l))
	}
	for i, l := range lists {
		spoil(l)
		_ = append(l[:0], 1, 2, 3, 4, 5, 6, 7, 8)
		for j := i + 1; j < len(lists); j++ {
			if !slices.Equal(lists[j], copies[j]) {
				t.Fatalf("list %d changed list %d", i, j)
			}
		}
		check(t, c, m)
	}
	l := due(t, c, m, 16)
	was := slices.Clone(l)
	put(t, c, m, 3, 4)
	put(t, c, m, 100, 16)
	spoil(due(t, c, m, 17))
	if !slices.Equal(l, was) {
		t.Errorf("the list has gone with the calendar: %v", l)
	}
	checkWrong(t, c, m)
	dueAll(t, c, m)
}

// Rule 3: what Ends answered may be changed by its caller, its spare room too.
func TestEndsAreNew(t *testing.T) {
	r := api.Reserve{Q: 1, P: 3}
	first, _ := Ends(r, 2, 50)
	again, _ := Ends(r, 2, 50)
	want := slices.Clone(first)
	spoil(first)
	if !slices.Equal(again, want) {
		t.Errorf("lists share memory: %v", again)
	}
	_ = append(again[:1], 7, 8, 9)
	none, _ := Ends(r, 2, 2)
	spoil(none)
	wrong, _ := Ends(r, 2, 1)
	spoil(wrong)
	for range 3 {
		if l, err := Ends(r, 2, 50); !slices.Equal(l, want) || err != nil {
			t.Errorf("Ends = %v, %v; want %v", l, err, want)
		}
	}
}

// P8: two calendars know nothing of each other.
func TestCalendarsAreAlone(t *testing.T) {
	a, am := made(t, entry{1, 10}, entry{2, 5}, entry{3, 10})
	b, bm := made(t, entry{1, 10}, entry{2, 5}, entry{3, 10})
	put(t, a, am, 4, 0)
	check(t, b, bm)
	put(t, b, bm, 1, 3)
	check(t, a, am)
	drop(t, a, am, 2)
	check(t, b, bm)
	due(t, b, bm, 5)
	check(t, a, am)
	dueAll(t, a, am)
	check(t, b, bm)
	put(t, a, am, 9, 9)
	dueAll(t, b, bm)
	check(t, a, am)
	if New() == New() {
		t.Error("two calendars are one")
	}
}

// P8: what a calendar answers hangs on what is in it, not on how it came there, nor on what went.
func TestNothingIsKept(t *testing.T) {
	list := []entry{{4, 9}, {2, 9}, {7, 1}, {0, 30}, {5, 2}}
	plain, pm := made(t, list...)
	used, um := made(t)
	chance := rand.New(rand.NewSource(3))
	for range 500 {
		do(t, used, um, step{chance.Intn(3), chance.Intn(20), chance.Intn(50)})
	}
	due(t, used, um, math.MaxInt)
	for _, e := range slices.Backward(list) {
		put(t, used, um, e.id, 100-e.at)
		put(t, used, um, e.id, e.at)
	}
	for till := -1; till < 40; till++ {
		if one, other := due(t, plain, pm, till), due(t, used, um, till); !slices.Equal(one, other) {
			t.Errorf("Due(%d) = %v; of the used one %v", till, one, other)
		}
	}
}

// P7, BO1 to BO4: whatever is done, each call answers as the model says. A byte tells what is done, the next one to which number, the third one at what time.
func FuzzCalls(f *testing.F) {
	f.Add("")
	f.Add("\x00\x02\x1e\x00\x01\x1e\x00\x03\x0a\x02\x00\x1e")
	f.Add("\x00\x01\x05\x00\x01\x09\x02\x00\x05\x01\x01\x00\x01\x01\x00")
	f.Add("\x00\x80\x90\x00\xa0\xff\x02\x00\x80\x02\x00\xff\x03\x01\x04")
	f.Fuzz(func(t *testing.T, calls string) {
		number := func(b byte) int {
			if b < 128 {
				return int(b)
			}
			return edges[int(b-128)%len(edges)]
		}
		c, m := made(t)
		for ; len(calls) > 2; calls = calls[3:] {
			id, at := number(calls[1]), number(calls[2])
			switch calls[0] % 4 {
			case 3:
				checkEnds(t, api.Reserve{Q: int(calls[0]) / 4, P: id}, at, id+at/2)
			default:
				do(t, c, m, step{int(calls[0] % 4), id, at})
			}
			check(t, c, m)
		}
		dueAll(t, c, m)
	})
}
