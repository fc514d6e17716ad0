package fifo

import (
	"math"
	"math/rand"
	"reflect"
	"slices"
	"strconv"
	"testing"

	"tithe/api"
)

// Limits that may be, the least and the greatest among them, and numbers that are none.
var (
	limits      = []int{1, 2, 3, 8, 16, 255, 256, 1023, 1024, 4095, 4096}
	wrongLimits = []int{math.MinInt, math.MinInt + 1, -1 << 32, -4096, -2, -1, 0, 4097, 4098, 8192, 65536, 1<<32 - 1, 1 << 32, 1<<32 + 1, math.MaxInt - 1, math.MaxInt}
)

// model is what a queue must be like.
type model struct {
	limit int
	list  []string
}

// clone is a model of its own.
func (m *model) clone() *model { return &model{m.limit, slices.Clone(m.list)} }

// has tells whether there is an element at a place.
func (m *model) has(i int) bool { return i >= 0 && i < len(m.list) }

// wrongPlaces are places at which a model has no element.
func (m *model) wrongPlaces() []int {
	n := len(m.list)
	return []int{math.MinInt, math.MinInt + 1, -1 << 32, -n - 1, -2, -1, n, n + 1, n + 2, m.limit, m.limit + 1, 4096, 4097, 1 << 32, 1<<32 + 1, math.MaxInt - 1, math.MaxInt}
}

// made is a queue of a limit with these elements, and its model.
func made(t *testing.T, limit int, list ...string) (*Queue[string], *model) {
	t.Helper()
	q, err := New[string](limit)
	if q == nil || err != nil {
		t.Fatalf("New(%d) = %v, %v", limit, q, err)
	}
	m := &model{limit: limit}
	for _, v := range list {
		push(t, q, m, v)
	}
	return q, m
}

// numbers are so many elements.
func numbers(many int) []string {
	var l []string
	for i := range many {
		l = append(l, strconv.Itoa(i))
	}
	return l
}

// push pushes an element into both.
func push(t *testing.T, q *Queue[string], m *model, v string) {
	t.Helper()
	var want error = api.ErrFull
	if len(m.list) < m.limit {
		want, m.list = nil, append(m.list, v)
	}
	if err := q.Push(v); err != want {
		t.Fatalf("Push(%q): %v; want %v", v, err, want)
	}
}

// drop takes the element at a place out of both.
func drop(t *testing.T, q *Queue[string], m *model, i int) {
	t.Helper()
	v, err := q.Drop(i)
	checkOut(t, "Drop("+strconv.Itoa(i)+")", m, i, v, err)
}

// pop takes the head out of both.
func pop(t *testing.T, q *Queue[string], m *model) {
	t.Helper()
	v, err := q.Pop()
	checkOut(t, "Pop()", m, 0, v, err)
}

// checkOut holds what a call has taken out of a queue against its model, from which it is taken out.
func checkOut(t *testing.T, call string, m *model, i int, v string, err error) {
	t.Helper()
	want, wantErr := "", error(api.ErrNone)
	if m.has(i) {
		want, wantErr = m.list[i], nil
		m.list = slices.Delete(m.list, i, i+1)
	}
	if v != want || err != wantErr {
		t.Fatalf("%s = %q, %v; want %q, %v", call, v, err, want, wantErr)
	}
}

// put changes the element at a place of both.
func put(t *testing.T, q *Queue[string], m *model, i int, v string) {
	t.Helper()
	var want error = api.ErrNone
	if m.has(i) {
		want, m.list[i] = nil, v
	}
	if err := q.Put(i, v); err != want {
		t.Fatalf("Put(%d, %q): %v; want %v", i, v, err, want)
	}
}

// clearBoth takes all out of both.
func clearBoth(t *testing.T, q *Queue[string], m *model) {
	t.Helper()
	if got := q.Clear(); got != len(m.list) {
		t.Fatalf("Clear() = %d; want %d", got, len(m.list))
	}
	m.list = nil
}

// keepBoth takes out of both what is not to be kept, and looks at what is asked of keep.
func keepBoth(t *testing.T, q *Queue[string], m *model, keep func(string) bool) {
	t.Helper()
	var asked []string
	before, was := len(m.list), slices.Clone(m.list)
	m.list = slices.DeleteFunc(m.list, func(v string) bool { return !keep(v) })
	got := Keep(q, func(v string) bool {
		asked = append(asked, v)
		return keep(v)
	})
	if want := before - len(m.list); got != want {
		t.Fatalf("Keep of %q = %d; want %d", was, got, want)
	}
	if !slices.Equal(asked, was) {
		t.Fatalf("Keep asked of %q; want %q", asked, was)
	}
}

// check holds a queue against a model in all that can be asked without changing it.
func check(t *testing.T, q *Queue[string], m *model) {
	t.Helper()
	if q.Limit() != m.limit || q.Len() != len(m.list) || q.Room() != m.limit-len(m.list) {
		t.Fatalf("Limit() = %d, Len() = %d, Room() = %d; want %d, %d, %d", q.Limit(), q.Len(), q.Room(), m.limit, len(m.list), m.limit-len(m.list))
	}
	if got := q.List(); !slices.Equal(got, m.list) {
		t.Fatalf("List() = %q; want %q", got, m.list)
	}
	next := 0
	for i, v := range q.All() {
		if i != next || !m.has(i) || v != m.list[i] {
			t.Fatalf("All() comes to %d, %q; want the %dth of %q", i, v, next, m.list)
		}
		next++
	}
	if next != len(m.list) {
		t.Fatalf("All() comes to %d elements; want %q", next, m.list)
	}
	for i, want := range m.list {
		if v, there := q.At(i); v != want || !there {
			t.Fatalf("At(%d) = %q, %v; want %q", i, v, there, want)
		}
	}
	want := ""
	if len(m.list) > 0 {
		want = m.list[0]
	}
	if v, there := q.Head(); v != want || there != (len(m.list) > 0) {
		t.Fatalf("Head() = %q, %v; of %q", v, there, m.list)
	}
}

// checkWrong asks a queue for what is not there: nothing is changed.
func checkWrong(t *testing.T, q *Queue[string], m *model) {
	t.Helper()
	for _, i := range m.wrongPlaces() {
		if m.has(i) {
			continue
		}
		if v, there := q.At(i); v != "" || there {
			t.Errorf("At(%d) of %q = %q, %v", i, m.list, v, there)
		}
		if err := q.Put(i, "wrong"); err != api.ErrNone {
			t.Errorf("Put(%d) of %q: %v", i, m.list, err)
		}
		if v, err := q.Drop(i); v != "" || err != api.ErrNone {
			t.Errorf("Drop(%d) of %q = %q, %v", i, m.list, v, err)
		}
	}
	if len(m.list) == m.limit {
		if err := q.Push("wrong"); err != api.ErrFull {
			t.Errorf("Push into %q of %d: %v", m.list, m.limit, err)
		}
	}
	if len(m.list) == 0 {
		if v, err := q.Pop(); v != "" || err != api.ErrNone {
			t.Errorf("Pop of nothing = %q, %v", v, err)
		}
		if n := q.Clear(); n != 0 {
			t.Errorf("Clear of nothing = %d", n)
		}
		if n := Keep(q, func(string) bool { t.Error("Keep asks of nothing"); return false }); n != 0 {
			t.Errorf("Keep of nothing = %d", n)
		}
	}
	if n := Keep(q, nil); n != 0 {
		t.Errorf("Keep by nil = %d", n)
	}
	check(t, q, m)
}

// FI2, FI3: the chapter's example.
func TestExample(t *testing.T) {
	q, err := New[int](2)
	if err != nil {
		t.Fatal(err)
	}
	for i, want := range []error{nil, nil, api.ErrFull} {
		if err := q.Push(i + 1); err != want {
			t.Errorf("Push(%d): %v; want %v", i+1, err, want)
		}
	}
	if v, err := q.Pop(); v != 1 || err != nil {
		t.Errorf("Pop() = %d, %v", v, err)
	}
	if err := q.Push(3); err != nil {
		t.Errorf("Push(3) again: %v", err)
	}
	if l := q.List(); !slices.Equal(l, []int{2, 3}) {
		t.Errorf("List() = %v", l)
	}
	if v, err := q.Drop(0); v != 2 || err != nil {
		t.Errorf("Drop(0) = %d, %v", v, err)
	}
	if v, there := q.Head(); v != 3 || !there {
		t.Errorf("Head() = %d, %v", v, there)
	}
}

// FI1: queues of a limit from 1 to 4,096: without elements, and with room for just so many.
func TestNew(t *testing.T) {
	for _, limit := range limits {
		q, m := made(t, limit)
		check(t, q, m)
		checkWrong(t, q, m)
		for _, v := range numbers(limit) {
			push(t, q, m, v)
		}
		check(t, q, m)
		checkWrong(t, q, m)
	}
}

// FI1: what is no limit makes no queue.
func TestNewOfWrong(t *testing.T) {
	for _, limit := range wrongLimits {
		if q, err := New[string](limit); q != nil || err != api.ErrArg {
			t.Errorf("New(%d) = %v, %v", limit, q, err)
		}
		if q, err := New[struct{}](limit); q != nil || err != api.ErrArg {
			t.Errorf("New(%d) of nothings = %v, %v", limit, q, err)
		}
	}
}

// FI2, FI5: elements leave in the order in which they came, and a queue that is full takes no more till one has left.
func TestPushPop(t *testing.T) {
	for _, limit := range limits {
		q, m := made(t, limit, numbers(limit)...)
		push(t, q, m, "no room")
		for _, v := range []string{"a", "b", "", "c"} {
			pop(t, q, m)
			push(t, q, m, v)
			push(t, q, m, "no room")
		}
		check(t, q, m)
		for range limit {
			pop(t, q, m)
		}
		checkWrong(t, q, m)
		pop(t, q, m)
		push(t, q, m, "again")
		check(t, q, m)
		if v, there := q.Head(); v != "again" || !there {
			t.Errorf("Head() = %q, %v", v, there)
		}
	}
}

// FI2: what is not there is the zero value and false, what is there may be the zero value too.
func TestHeadAndAt(t *testing.T) {
	q, m := made(t, 3)
	if v, there := q.Head(); v != "" || there {
		t.Errorf("Head of nothing = %q, %v", v, there)
	}
	push(t, q, m, "")
	if v, there := q.Head(); v != "" || !there {
		t.Errorf("Head = %q, %v", v, there)
	}
	if v, there := q.At(0); v != "" || !there {
		t.Errorf("At(0) = %q, %v", v, there)
	}
	push(t, q, m, "b")
	push(t, q, m, "c")
	for i, want := range []string{"", "b", "c"} {
		if v, there := q.At(i); v != want || !there {
			t.Errorf("At(%d) = %q, %v", i, v, there)
		}
	}
	checkWrong(t, q, m)
	pop(t, q, m)
	if v, there := q.At(1); v != "c" || !there {
		t.Errorf("At(1) behind Pop = %q, %v", v, there)
	}
	if v, there := q.At(2); v != "" || there {
		t.Errorf("At(2) behind Pop = %q, %v", v, there)
	}
}

// FI2: Put changes the element at its place alone, be it the first, the last or one between.
func TestPut(t *testing.T) {
	for _, limit := range []int{1, 2, 5, 4096} {
		q, m := made(t, limit, numbers(limit)...)
		for _, i := range []int{0, limit / 2, limit - 1, 0} {
			put(t, q, m, i, "put at "+strconv.Itoa(i))
			check(t, q, m)
		}
		put(t, q, m, 0, "")
		check(t, q, m)
		checkWrong(t, q, m)
		for range limit {
			pop(t, q, m)
		}
		put(t, q, m, 0, "nothing is there")
		check(t, q, m)
	}
}

// FI2: what is behind an element that is taken out moves up.
func TestDrop(t *testing.T) {
	for _, many := range []int{1, 2, 3, 5, 4096} {
		for _, i := range []int{0, 1, many / 2, many - 2, many - 1} {
			q, m := made(t, many, numbers(many)...)
			drop(t, q, m, i)
			check(t, q, m)
			drop(t, q, m, i)
			checkWrong(t, q, m)
			push(t, q, m, "behind")
			push(t, q, m, "behind all")
			push(t, q, m, "no room")
			check(t, q, m)
		}
	}
	q, m := made(t, 4, "a", "b", "c", "d")
	drop(t, q, m, 1)
	if l := q.List(); !slices.Equal(l, []string{"a", "c", "d"}) {
		t.Errorf("List() = %q", l)
	}
	drop(t, q, m, 2)
	if l := q.List(); !slices.Equal(l, []string{"a", "c"}) {
		t.Errorf("List() = %q", l)
	}
	drop(t, q, m, 0)
	drop(t, q, m, 0)
	drop(t, q, m, 0)
	checkWrong(t, q, m)
}

// FI3: Len and Room together are the limit, whatever is done.
func TestLenRoomLimit(t *testing.T) {
	q, err := New[string](3)
	if err != nil {
		t.Fatal(err)
	}
	steps := []struct {
		do  func()
		len int
	}{
		{func() {}, 0},
		{func() { q.Pop() }, 0},
		{func() { q.Push("a") }, 1},
		{func() { q.Put(0, "b") }, 1},
		{func() { q.Push("c") }, 2},
		{func() { q.Push("d") }, 3},
		{func() { q.Push("e") }, 3},
		{func() { q.Drop(3) }, 3},
		{func() { q.Drop(1) }, 2},
		{func() { Keep(q, func(v string) bool { return v != "d" }) }, 1},
		{func() { q.Push("f") }, 2},
		{func() { q.Pop() }, 1},
		{func() { q.Clear() }, 0},
		{func() { q.Push("g") }, 1},
	}
	for i, s := range steps {
		s.do()
		if q.Len() != s.len || q.Room() != 3-s.len || q.Limit() != 3 {
			t.Errorf("behind step %d: Len() = %d, Room() = %d, Limit() = %d; want %d", i, q.Len(), q.Room(), q.Limit(), s.len)
		}
	}
}

// FI3, rule 3: a list is memory of its own, its spare room too.
func TestListIsNew(t *testing.T) {
	q, m := made(t, 9, "a", "b", "c")
	list, again := q.List(), q.List()
	clear(list[:cap(list)])
	if !slices.Equal(again, m.list) {
		t.Errorf("lists share memory: %q", again)
	}
	check(t, q, m)
	_ = append(again[:1], "x", "y", "z")
	check(t, q, m)
	list = q.List()
	push(t, q, m, "d")
	put(t, q, m, 0, "A")
	drop(t, q, m, 1)
	if !slices.Equal(list, []string{"a", "b", "c"}) {
		t.Errorf("the list has gone with the queue: %q", list)
	}
	check(t, q, m)
	clearBoth(t, q, m)
	if l := q.List(); len(l) != 0 {
		t.Errorf("the list of nothing: %q", l)
	}
}

// FI3: each going over begins with the head, also of one All, and sees what is there then.
func TestAllAgain(t *testing.T) {
	q, m := made(t, 4, "a", "b", "c")
	all := q.All()
	for range 2 {
		var got []string
		for i, v := range all {
			if i != len(got) {
				t.Errorf("place %d; want %d", i, len(got))
			}
			got = append(got, v)
		}
		if !slices.Equal(got, m.list) {
			t.Errorf("%q; want %q", got, m.list)
		}
		drop(t, q, m, 1)
		push(t, q, m, "d")
	}
	clearBoth(t, q, m)
	for i, v := range all {
		t.Errorf("of nothing: %d, %q", i, v)
	}
}

// FI3: All that is left early goes no further.
func TestAllLeft(t *testing.T) {
	q, m := made(t, 5, "a", "b", "c", "d")
	for stop := range 4 {
		came := 0
		q.All()(func(i int, v string) bool {
			if i != came || v != m.list[i] {
				t.Errorf("%d, %q", i, v)
			}
			came++
			return i < stop
		})
		if came != stop+1 {
			t.Errorf("left at place %d: %d came", stop, came)
		}
	}
	for i := range q.All() {
		if i == 1 {
			break
		}
	}
	check(t, q, m)
}

// met is what All comes to, while something is done at each place.
func met(q *Queue[string], do func(i int, v string)) []string {
	var got []string
	for i, v := range q.All() {
		got = append(got, strconv.Itoa(i)+v)
		do(i, v)
	}
	return got
}

// FI3: All looks at a place when it is come to: what is pushed, changed or taken out meanwhile is seen.
func TestAllMeanwhile(t *testing.T) {
	q, _ := New[string](5)
	for name, c := range map[string]struct {
		do         func(i int, v string)
		want, left []string
	}{
		"pushes one":          {func(i int, v string) { onceAt(i, 0, func() { q.Push("x") }) }, []string{"0a", "1b", "2c", "3x"}, []string{"a", "b", "c", "x"}},
		"pushes at the last":  {func(i int, v string) { onceAt(i, 2, func() { q.Push("x") }) }, []string{"0a", "1b", "2c", "3x"}, []string{"a", "b", "c", "x"}},
		"pushes for ever":     {func(i int, v string) { q.Push(v + "x") }, []string{"0a", "1b", "2c", "3ax", "4bx"}, []string{"a", "b", "c", "ax", "bx"}},
		"pops the head":       {func(i int, v string) { onceAt(i, 0, func() { q.Pop() }) }, []string{"0a", "1c"}, []string{"b", "c"}},
		"pops for ever":       {func(i int, v string) { q.Pop() }, []string{"0a", "1c"}, []string{"c"}},
		"drops the next":      {func(i int, v string) { onceAt(i, 0, func() { q.Drop(1) }) }, []string{"0a", "1c"}, []string{"a", "c"}},
		"drops the last":      {func(i int, v string) { onceAt(i, 1, func() { q.Drop(2) }) }, []string{"0a", "1b"}, []string{"a", "b"}},
		"clears":              {func(i int, v string) { q.Clear() }, []string{"0a"}, nil},
		"clears and pushes":   {func(i int, v string) { q.Clear(); q.Push("x"); q.Push("y") }, []string{"0a", "1y"}, []string{"x", "y"}},
		"puts ahead":          {func(i int, v string) { q.Put(i+1, v+"x") }, []string{"0a", "1ax", "2axx"}, []string{"a", "ax", "axx"}},
		"puts behind":         {func(i int, v string) { q.Put(i, v+"x") }, []string{"0a", "1b", "2c"}, []string{"ax", "bx", "cx"}},
		"pops and pushes":     {func(i int, v string) { q.Pop(); q.Push("x") }, []string{"0a", "1c", "2x"}, []string{"x", "x", "x"}},
		"keeps but the first": {func(i int, v string) { Keep(q, func(v string) bool { return v != "a" }) }, []string{"0a", "1c"}, []string{"b", "c"}},
	} {
		q.Clear()
		for _, v := range []string{"a", "b", "c"} {
			q.Push(v)
		}
		if got := met(q, c.do); !slices.Equal(got, c.want) {
			t.Errorf("%s: comes to %q; want %q", name, got, c.want)
		}
		if got := q.List(); !slices.Equal(got, c.left) {
			t.Errorf("%s: leaves %q; want %q", name, got, c.left)
		}
	}
}

// onceAt does something at a place.
func onceAt(i, place int, do func()) {
	if i == place {
		do()
	}
}

// FI3: All ends, also where a queue of the greatest limit is filled while it is gone over.
func TestAllEnds(t *testing.T) {
	q, m := made(t, 4096, "a")
	came := 0
	for range q.All() {
		came++
		q.Push("a")
		q.Push("a")
	}
	if came != 4096 || q.Len() != 4096 {
		t.Errorf("%d came, %d are there", came, q.Len())
	}
	m.list = slices.Repeat([]string{"a"}, 4096)
	check(t, q, m)
}

// FI3: Clear takes all out, how many they were is told, and the queue goes on.
func TestClear(t *testing.T) {
	for _, limit := range limits {
		for _, many := range []int{0, 1, limit / 2, limit} {
			q, m := made(t, limit, numbers(many)...)
			clearBoth(t, q, m)
			check(t, q, m)
			checkWrong(t, q, m)
			clearBoth(t, q, m)
			for _, v := range []string{"a", "b"} {
				push(t, q, m, v)
			}
			check(t, q, m)
			pop(t, q, m)
			check(t, q, m)
		}
	}
}

// FI3, FI5: a twin goes on like its queue under the same calls, and not under the queue's own.
func TestTwin(t *testing.T) {
	for _, many := range []int{0, 1, 3, 5} {
		q, m := made(t, 5, numbers(many)...)
		twin, twinModel := q.Twin(), m.clone()
		check(t, twin, twinModel)
		checkWrong(t, twin, twinModel)
		if !Same(q, twin) || !Same(twin, q) {
			t.Errorf("a twin of %q is not the same", m.list)
		}
		apart(t, q, m, twin, twinModel)
		q, m = made(t, 5, numbers(many)...)
		twin, twinModel = q.Twin(), m.clone()
		apart(t, twin, twinModel, q, m)
	}
}

// apart does to one of two queues what can be done, and looks that the other one stays; then it does other things to that one.
func apart(t *testing.T, a *Queue[string], am *model, b *Queue[string], bm *model) {
	t.Helper()
	put(t, a, am, 0, "of a")
	check(t, b, bm)
	push(t, a, am, "more of a")
	check(t, b, bm)
	push(t, b, bm, "of b")
	check(t, a, am)
	put(t, b, bm, len(bm.list)-1, "more of b")
	check(t, a, am)
	drop(t, a, am, len(am.list)-1)
	check(t, b, bm)
	pop(t, b, bm)
	check(t, a, am)
	keepBoth(t, a, am, func(v string) bool { return v > "1" })
	check(t, b, bm)
	push(t, a, am, "last of a")
	clearBoth(t, b, bm)
	check(t, a, am)
	push(t, b, bm, "last of b")
	check(t, a, am)
	check(t, b, bm)
	clearBoth(t, a, am)
	check(t, b, bm)
}

// FI4: Keep asks of each element once, from the head on, and takes out those that are not to be kept.
func TestKeep(t *testing.T) {
	for name, keep := range map[string]func(string) bool{
		"all":       func(string) bool { return true },
		"nothing":   func(string) bool { return false },
		"the head":  func(v string) bool { return v == "0" },
		"no head":   func(v string) bool { return v != "0" },
		"the last":  func(v string) bool { return v == "4" },
		"no last":   func(v string) bool { return v != "4" },
		"one of it": func(v string) bool { return v == "2" },
		"the even":  func(v string) bool { return v == "0" || v == "2" || v == "4" },
		"the odd":   func(v string) bool { return v == "1" || v == "3" },
	} {
		for _, many := range []int{0, 1, 2, 5} {
			q, m := made(t, 5, numbers(many)...)
			keepBoth(t, q, m, keep)
			check(t, q, m)
			checkWrong(t, q, m)
			push(t, q, m, "behind")
			check(t, q, m)
			if t.Failed() {
				t.Fatalf("%s of %d", name, many)
			}
		}
	}
}

// FI4: Keep of the greatest queue, with nothing, with all, and with each second one of it; and of elements that are equal.
func TestKeepOfMany(t *testing.T) {
	q, m := made(t, 4096, numbers(4096)...)
	keepBoth(t, q, m, func(string) bool { return true })
	check(t, q, m)
	keepBoth(t, q, m, func(v string) bool { return (v[len(v)-1]-'0')%2 == 0 })
	check(t, q, m)
	keepBoth(t, q, m, func(string) bool { return false })
	checkWrong(t, q, m)
	for range 4096 {
		push(t, q, m, "like")
	}
	asked := 0
	if n := Keep(q, func(string) bool { asked++; return asked%4 == 0 }); n != 3072 || asked != 4096 {
		t.Errorf("Keep = %d, asked %d times", n, asked)
	}
	m.list = m.list[:1024]
	check(t, q, m)
}

// FI4: what is asked last may be other than what was asked first: each answer is of its own element.
func TestKeepByTurns(t *testing.T) {
	q, m := made(t, 6, "a", "a", "b", "a", "b", "c")
	turn := 0
	n := Keep(q, func(string) bool { turn++; return turn != 2 && turn != 5 })
	m.list = []string{"a", "b", "a", "c"}
	if n != 2 {
		t.Errorf("Keep = %d", n)
	}
	check(t, q, m)
}

// FI4: with a nil keep nothing is taken out.
func TestKeepByNil(t *testing.T) {
	for _, many := range []int{0, 1, 4, 5} {
		q, m := made(t, 5, numbers(many)...)
		if n := Keep(q, nil); n != 0 {
			t.Errorf("Keep by nil = %d", n)
		}
		check(t, q, m)
	}
}

// FI4, FI5: what keep itself does to the queue is done, and what it is false of goes, wherever that stands by then; what comes meanwhile stays.
func TestKeepMeanwhile(t *testing.T) {
	q, _ := New[string](5)
	atA := func(do func()) func(string) {
		return func(v string) { onceAt(int(v[0]), 'a', do) }
	}
	for name, c := range map[string]struct {
		do   func(v string)
		went int
		left []string
	}{
		"does nothing":        {func(string) {}, 2, []string{"a", "c"}},
		"pushes":              {func(v string) { q.Push(v + "x") }, 2, []string{"a", "c", "ax"}},
		"pops":                {atA(func() { q.Pop() }), 2, []string{"c"}},
		"pops at each":        {func(string) { q.Pop() }, 0, nil},
		"drops the last":      {atA(func() { q.Drop(3) }), 1, []string{"a", "c"}},
		"clears":              {func(string) { q.Clear() }, 0, nil},
		"clears and pushes":   {func(string) { q.Clear(); q.Push("b"); q.Push("d") }, 0, []string{"b", "d"}},
		"puts":                {atA(func() { q.Put(1, "d") }), 1, []string{"a", "d", "c"}},
		"puts all in a turn":  {func(string) { v, _ := q.Pop(); q.Push(v) }, 0, []string{"a", "b", "c", "d"}},
		"keeps in its turn":   {atA(func() { Keep(q, func(v string) bool { return v != "b" }) }), 1, []string{"a", "c"}},
		"looks at all of it":  {func(string) { q.List(); q.Twin().Clear() }, 2, []string{"a", "c"}},
		"goes over all of it": {func(string) { met(q, func(int, string) {}) }, 2, []string{"a", "c"}},
	} {
		q.Clear()
		for _, v := range []string{"a", "b", "c", "d"} {
			q.Push(v)
		}
		var asked []string
		went := Keep(q, func(v string) bool {
			asked = append(asked, v)
			c.do(v)
			return v == "a" || v == "c"
		})
		if !slices.Equal(asked, []string{"a", "b", "c", "d"}) {
			t.Errorf("%s: asked of %q", name, asked)
		}
		if got := q.List(); went != c.went || !slices.Equal(got, c.left) {
			t.Errorf("%s: %d went, %q are left; want %d, %q", name, went, got, c.went, c.left)
		}
		if q.Len()+q.Room() != 5 {
			t.Errorf("%s: %d and %d", name, q.Len(), q.Room())
		}
	}
}

// FI4: Keep ends, though keep fills the queue each time.
func TestKeepEnds(t *testing.T) {
	for _, limit := range []int{1, 2, 4096} {
		q, m := made(t, limit, "a")
		asked := 0
		if n := Keep(q, func(string) bool { asked++; q.Push("b"); return false }); n != 1 || asked != 1 {
			t.Errorf("Keep = %d, asked %d times", n, asked)
		}
		m.list = nil
		if limit > 1 {
			m.list = []string{"b"}
		}
		check(t, q, m)
	}
}

// Rule 1: Keep does not panic where keep does: what keep has not said false of stays, and the others are asked.
func TestKeepOfPanic(t *testing.T) {
	q, m := made(t, 6, "a", "b", "c", "d", "e", "f")
	var asked []string
	n := Keep(q, func(v string) bool {
		asked = append(asked, v)
		switch v {
		case "a":
			panic("text")
		case "c":
			panic(nil)
		case "f":
			var none []int
			return none[0] == 0
		}
		return v == "d"
	})
	if n != 2 || !slices.Equal(asked, m.list) {
		t.Errorf("Keep = %d, asked of %q", n, asked)
	}
	m.list = []string{"a", "c", "d", "f"}
	check(t, q, m)
	push(t, q, m, "g")
	check(t, q, m)
}

// FI4: queues are the same, if their limits and their elements are, in the same order; however they came to be.
func TestSame(t *testing.T) {
	type made struct {
		limit int
		list  []string
	}
	queues := []made{
		{1, nil}, {1, []string{""}}, {1, []string{"a"}}, {2, nil}, {2, []string{""}}, {2, []string{"a"}}, {2, []string{"b"}},
		{2, []string{"a", "a"}}, {2, []string{"a", "b"}}, {2, []string{"b", "a"}}, {3, []string{"a", "b"}},
		{3, []string{"a", "b", "c"}}, {3, []string{"a", "c", "b"}}, {3, []string{"c", "b", "a"}}, {3, []string{"x", "b", "c"}},
		{3, []string{"a", "x", "c"}}, {3, []string{"a", "b", "x"}}, {3, []string{"a", "b", ""}}, {4096, nil}, {4096, numbers(4096)}, {4096, numbers(4095)},
		{4096, append(numbers(4095), "other")}, {4095, numbers(4095)},
	}
	for i, a := range queues {
		for j, b := range queues {
			p, q := queueOf(t, a.limit, a.list), detourOf(t, b.limit, b.list)
			if got := Same(p, q); got != (i == j) {
				t.Errorf("Same of %d, %.40q and %d, %.40q = %v", a.limit, a.list, b.limit, b.list, got)
			}
			if got := Same(q, p); got != (i == j) {
				t.Errorf("Same of %d, %.40q and %d, %.40q = %v", b.limit, b.list, a.limit, a.list, got)
			}
			if p.Len() != len(a.list) || q.Len() != len(b.list) {
				t.Errorf("Same has changed %.40q to %.40q, or %.40q to %.40q", a.list, p.List(), b.list, q.List())
			}
		}
	}
}

// queueOf is a queue into which just these elements were pushed.
func queueOf(t *testing.T, limit int, list []string) *Queue[string] {
	t.Helper()
	q, err := New[string](limit)
	if err != nil {
		t.Fatal(err)
	}
	for _, v := range list {
		if err := q.Push(v); err != nil {
			t.Fatal(err)
		}
	}
	return q
}

// detourOf is a queue with these elements, from which others went.
func detourOf(t *testing.T, limit int, list []string) *Queue[string] {
	t.Helper()
	q := queueOf(t, limit, slices.Repeat([]string{"old"}, limit))
	q.Pop()
	q.Clear()
	for range list {
		if err := q.Push("other"); err != nil {
			t.Fatal(err)
		}
	}
	for i, v := range list {
		if err := q.Put(i, v); err != nil {
			t.Fatal(err)
		}
	}
	return q
}

// FI4: elements are equal by ==, and those that have none are not, not even to themselves; nothing panics (rule 1).
func TestSameOfInterfaces(t *testing.T) {
	alike := []any{nil, 1, "a", api.Reserve{Q: 1, P: 2}, [2]int{1, 2}, (*int)(nil)}
	unlike := []any{
		[]int{1}, []int(nil), map[string]int{}, func() {}, struct{ l []int }{}, [1]any{[]int{1}}, math.NaN(), new(int),
	}
	for _, v := range alike {
		if !Same(anyOf(t, "a", v), anyOf(t, "a", v)) {
			t.Errorf("%v is not the same", v)
		}
		for _, w := range append(unlike, int64(1), 2, "b", [2]int{1, 3}, (*string)(nil)) {
			if Same(anyOf(t, v, "a"), anyOf(t, w, "a")) || Same(anyOf(t, "a", w), anyOf(t, "a", v)) {
				t.Errorf("%v and %v are the same", v, w)
			}
		}
	}
	for _, v := range unlike[:7] {
		q := anyOf(t, "a", v)
		if Same(q, q) || Same(q, q.Twin()) {
			t.Errorf("%v is the same", v)
		}
		if q.Len() != 2 || q.Room() != 0 {
			t.Errorf("Same has changed %v", q.List())
		}
	}
}

// anyOf is a queue of whatever elements, that is full with them.
func anyOf(t *testing.T, list ...any) *Queue[any] {
	t.Helper()
	q, err := New[any](len(list))
	if err != nil {
		t.Fatal(err)
	}
	for _, v := range list {
		if err := q.Push(v); err != nil {
			t.Fatal(err)
		}
	}
	return q
}

// FI1 to FI5: a nil queue, and one that New has not made, have the limit 0 and no elements, in every call.
func TestNoQueue(t *testing.T) {
	for _, q := range []*Queue[string]{nil, new(Queue[string]), {}} {
		m := &model{}
		for range 2 {
			check(t, q, m)
			checkWrong(t, q, m)
			push(t, q, m, "no room")
			pop(t, q, m)
			drop(t, q, m, 0)
			put(t, q, m, 0, "none")
			clearBoth(t, q, m)
		}
		if l := q.List(); len(l) != 0 {
			t.Errorf("List() = %q", l)
		}
		twin := q.Twin()
		if (twin == nil) != (q == nil) || q != nil && twin == q {
			t.Errorf("Twin() = %v", twin)
		}
		check(t, twin, m)
		checkWrong(t, twin, m)
		for _, other := range []*Queue[string]{nil, {}, twin} {
			if !Same(q, other) || !Same(other, q) {
				t.Errorf("Same(%v, %v) is false", q, other)
			}
		}
		for _, limit := range limits {
			for _, many := range []int{0, 1} {
				other, _ := made(t, limit, numbers(many)...)
				if Same(q, other) || Same(other, q) {
					t.Errorf("the same as one of %d with %d", limit, many)
				}
			}
		}
	}
}

// FI2, FI3: a queue is one of whatever elements: structs, lists, functions, and such that have no size.
func TestElements(t *testing.T) {
	jobs, _ := New[api.Job](8)
	if err := jobs.Push(api.Job{Length: 3, Due: 5}); err != nil {
		t.Error(err)
	}
	if err := jobs.Put(0, api.Job{Length: 2, Due: 5}); err != nil {
		t.Error(err)
	}
	if j, err := jobs.Pop(); j != (api.Job{Length: 2, Due: 5}) || err != nil {
		t.Errorf("Pop() = %v, %v", j, err)
	}
	if j, err := jobs.Pop(); j != (api.Job{}) || err != api.ErrNone {
		t.Errorf("Pop of nothing = %v, %v", j, err)
	}
	calls, _ := New[func() int](1)
	if err := calls.Push(func() int { return 9 }); err != nil {
		t.Error(err)
	}
	if f, there := calls.Head(); f == nil || f() != 9 || !there {
		t.Error("the head is no function")
	}
	if f, there := calls.At(1); f != nil || there {
		t.Error("a function where none is")
	}
	lists, _ := New[[]int](2)
	if err := lists.Push(nil); err != nil || lists.Len() != 1 {
		t.Errorf("Push of nil: %v", err)
	}
	if l, err := lists.Pop(); l != nil || err != nil {
		t.Errorf("Pop() = %v, %v", l, err)
	}
	nothings, _ := New[struct{}](4096)
	for range 4096 {
		nothings.Push(struct{}{})
	}
	if err := nothings.Push(struct{}{}); err != api.ErrFull {
		t.Errorf("Push of one more: %v", err)
	}
	turn := 0
	if n := Keep(nothings, func(struct{}) bool { turn++; return turn%2 == 0 }); n != 2048 || nothings.Len() != 2048 {
		t.Errorf("Keep = %d, Len() = %d", n, nothings.Len())
	}
	if !Same(nothings, nothings.Twin()) {
		t.Error("a twin of nothings is another one")
	}
}

// FI3: of the elements a queue, its list and its twin have plain copies: what they point to is the same.
func TestElementsArePlain(t *testing.T) {
	q, _ := New[*int](1)
	n := 7
	if err := q.Push(&n); err != nil {
		t.Fatal(err)
	}
	if p, _ := q.Twin().Head(); p != &n {
		t.Error("the twin's element points elsewhere")
	}
	if l := q.List(); l[0] != &n {
		t.Error("the list's element points elsewhere")
	}
}

// What has gone is not held any more: the spare room holds none of it.
func TestGoneIsNotHeld(t *testing.T) {
	q, m := made(t, 8, numbers(8)...)
	held := func(step string) {
		t.Helper()
		for i, e := range q.list[len(q.list):cap(q.list)] {
			if e != (entry[string]{}) {
				t.Errorf("behind %s: %v stands %d behind the last", step, e, i)
			}
		}
	}
	pop(t, q, m)
	held("Pop")
	drop(t, q, m, 3)
	held("Drop")
	keepBoth(t, q, m, func(v string) bool { return v != "2" && v != "7" })
	held("Keep")
	clearBoth(t, q, m)
	held("Clear")
}

// FI5: rows of calls by chance: each queue is what its model says; and those that came are those that left and those that are there, each once.
func TestRows(t *testing.T) {
	for seed := range 80 {
		r := rand.New(rand.NewSource(int64(seed)))
		limit := 1 + r.Intn(7)
		q, m := made(t, limit)
		for step := range 400 {
			row(t, r, q, m, strconv.Itoa(step))
			check(t, q, m)
			if step%50 == 0 {
				checkWrong(t, q, m)
			}
			if r.Intn(20) > 0 {
				continue
			}
			twin, twinModel := q.Twin(), m.clone()
			if !Same(q, twin) {
				t.Fatalf("a twin of %q is %q", m.list, twin.List())
			}
			row(t, r, twin, twinModel, "twin's")
			check(t, q, m)
			if got, want := Same(q, twin), reflect.DeepEqual(q.List(), twin.List()); got != want {
				t.Fatalf("Same of %q and %q = %v", q.List(), twin.List(), got)
			}
			q, m = twin, twinModel
		}
	}
}

// row does one thing to both.
func row(t *testing.T, r *rand.Rand, q *Queue[string], m *model, v string) {
	t.Helper()
	i := r.Intn(m.limit+3) - 1
	switch r.Intn(12) {
	case 0, 1, 2, 3, 4:
		push(t, q, m, v)
	case 5, 6:
		pop(t, q, m)
	case 7, 8:
		drop(t, q, m, i)
	case 9:
		put(t, q, m, i, v)
	case 10:
		last := byte('0' + r.Intn(10))
		keepBoth(t, q, m, func(v string) bool { return v[len(v)-1] != last })
	default:
		if r.Intn(4) == 0 {
			clearBoth(t, q, m)
		}
	}
}

// FI5: where only Push and Pop are called, all leave as they came, be there ever so many.
func TestOrder(t *testing.T) {
	for _, limit := range limits {
		r := rand.New(rand.NewSource(int64(limit)))
		q, err := New[int](limit)
		if err != nil {
			t.Fatal(err)
		}
		came, left := 0, 0
		for range 20000 {
			if r.Intn(2) == 0 {
				if err := q.Push(came); (err == nil) != (came-left < limit) {
					t.Fatalf("Push with %d of %d: %v", came-left, limit, err)
				} else if err == nil {
					came++
				}
			} else if v, err := q.Pop(); (err == nil) != (came > left) {
				t.Fatalf("Pop with %d: %v", came-left, err)
			} else if err == nil {
				if v != left {
					t.Fatalf("%d left; want %d", v, left)
				}
				left++
			}
			if q.Len() != came-left || q.Len()+q.Room() != limit {
				t.Fatalf("Len() = %d, Room() = %d; %d came, %d left", q.Len(), q.Room(), came, left)
			}
		}
	}
}

// P8: queues know nothing of each other.
func TestQueuesAreAlone(t *testing.T) {
	a, am := made(t, 5, "a", "b", "c")
	b, bm := made(t, 5, "a", "b", "c")
	apart(t, a, am, b, bm)
}

// P7, FI5: whatever is done, each call answers as the model says. A byte tells what is done, the next one at which place.
func FuzzCalls(f *testing.F) {
	f.Add(2, "")
	f.Add(1, "\x00\x00\x00\x01\x01\x00\x01\x00")
	f.Add(4096, "\x00\x00\x00\x01\x00\x02\x02\x01\x03\x00\x04\x01\x05\x00\x06\x00\x07\x00")
	f.Add(0, "\x00\x00")
	f.Add(4097, "\x00\x00")
	f.Fuzz(func(t *testing.T, limit int, calls string) {
		q, err := New[string](limit)
		if limit < 1 || limit > 4096 {
			if q != nil || err != api.ErrArg {
				t.Fatalf("New(%d) = %v, %v", limit, q, err)
			}
			return
		}
		if err != nil {
			t.Fatalf("New(%d): %v", limit, err)
		}
		m := &model{limit: limit}
		for ; len(calls) > 1; calls = calls[2:] {
			i := int(int8(calls[1]))
			switch calls[0] % 7 {
			case 0:
				push(t, q, m, calls[1:2])
			case 1:
				pop(t, q, m)
			case 2:
				drop(t, q, m, i)
			case 3:
				put(t, q, m, i, calls[1:2])
			case 4:
				keepBoth(t, q, m, func(v string) bool { return v != calls[1:2] })
			case 5:
				clearBoth(t, q, m)
			default:
				twin := q.Twin()
				if !Same(q, twin) {
					t.Fatalf("a twin of %q is %q", m.list, twin.List())
				}
				q = twin
			}
		}
		check(t, q, m)
	})
}
