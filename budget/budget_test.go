package budget

import (
	"math"
	"math/big"
	"math/rand"
	"slices"
	"testing"

	"tithe/api"
)

// edges are numbers at which something might change, wrong ones among them; as budgets, as periods and as times.
var edges = []int{
	math.MinInt, math.MinInt + 1, -1 << 44, -1 << 32, -1073741824, -1048576, -2, -1, 0, 1, 2, 3, 4, 5, 6, 10, 15,
	1048575, 1048576, 1048577, 1072693248, 1073741823, 1073741824, 1073741825, 1074790400, 1074790401,
	1 << 32, 1 << 44, math.MaxInt - 1048576, math.MaxInt - 1, math.MaxInt,
}

// The chapter's words, with its numbers written out.
func within(n, low, high int) bool { return !(n < low) && !(n > high) }
func fits(r api.Reserve) bool      { return within(r.P, 1, 1048576) && within(r.Q, 1, r.P) }
func isTime(n int) bool            { return within(n, 0, 1073741824) }
func none(r api.Reserve) bool      { return r.Q == 0 && r.P == 0 }
func same(a, b api.Reserve) bool   { return a.Q == b.Q && a.P == b.P }
func may(b Budget) bool {
	next := none(b.Next) || fits(b.Next) && !same(b.Next, b.Now)
	return fits(b.Now) && next && within(b.Left, 0, b.Now.Q) && isTime(b.Start) && isSum(b.End, b.Start, b.Now.P)
}

// isSum tells whether n is a and b together, be that an int or not.
func isSum(n, a, b int) bool {
	sum := new(big.Int).Add(big.NewInt(int64(a)), big.NewInt(int64(b)))
	return sum.Cmp(big.NewInt(int64(n))) == 0
}

// units is a reservation's share, by an exact fraction; 0 of the zero one.
func units(r api.Reserve) int {
	if none(r) {
		return 0
	}
	n := new(big.Int).Mul(big.NewInt(int64(r.Q)), big.NewInt(1048576))
	n, rest := n.QuoRem(n, big.NewInt(int64(r.P)), new(big.Int))
	if rest.Sign() > 0 {
		return int(n.Int64()) + 1
	}
	return int(n.Int64())
}

// reserves are reservations that may be.
func reserves() []api.Reserve {
	return []api.Reserve{
		{Q: 1, P: 1}, {Q: 1, P: 2}, {Q: 2, P: 2}, {Q: 1, P: 3}, {Q: 2, P: 5}, {Q: 4, P: 5}, {Q: 4, P: 10}, {Q: 2, P: 4},
		{Q: 333333, P: 1000000}, {Q: 1, P: 1048576}, {Q: 1048575, P: 1048576}, {Q: 1048576, P: 1048576}, {Q: 1, P: 1048575},
	}
}

// wrongReserves are reservations of the edges that may not be, the zero one among them.
func wrongReserves() []api.Reserve {
	var l []api.Reserve
	for _, q := range edges {
		for _, p := range edges {
			if r := (api.Reserve{Q: q, P: p}); !fits(r) {
				l = append(l, r)
			}
		}
	}
	return l
}

// fine are budgets that may be: of all the reservations, with others pending or none, dying or not, with little left and with much, at the first times and at the last.
func fine() []Budget {
	var l []Budget
	for _, now := range reserves() {
		for _, next := range append(reserves(), api.Reserve{}) {
			for _, left := range []int{0, 1, now.Q - 1, now.Q} {
				for _, start := range []int{0, 10, 1073741824 - now.P, 1073741824 - now.P + 1, 1073741824} {
					b := Budget{Now: now, Next: next, Left: left, Start: start, End: start + now.P}
					dying := b
					dying.Dying = true
					l = append(l, b, dying)
				}
			}
		}
	}
	return slices.DeleteFunc(l, func(b Budget) bool { return !may(b) })
}

// moved are budgets that are another one but for one field, or but for two that hang together, of the numbers given.
func moved(b Budget, numbers []int) []Budget {
	var l []Budget
	for _, n := range numbers {
		fields := [10]Budget{}
		for i := range fields {
			fields[i] = b
		}
		fields[0].Now.Q = n
		fields[1].Now.P = n
		fields[2].Now.P, fields[2].End = n, b.Start+n // beyond the ints with wrap-round
		fields[3].Next.Q = n
		fields[4].Next.P = n
		fields[5].Left = n
		fields[6].Start = n
		fields[7].Start, fields[7].End = n, n+b.Now.P
		fields[8].End = n
		fields[9].Now.Q, fields[9].Left = n, 0
		l = append(l, fields[:]...)
	}
	return l
}

// wrong are budgets that may not be: one field is an edge, or the one beside what it was.
func wrong() []Budget {
	var l []Budget
	for _, b := range samples() {
		l = append(l, moved(b, edges)...)
		l = append(l, moved(b, []int{b.Now.Q - 1, b.Now.Q + 1, b.Now.P - 1, b.Now.P + 1, b.Start - 1, b.Start + 1, b.End - 1, b.End + 1})...)
		again := b
		again.Next = b.Now
		l = append(l, again)
	}
	return slices.DeleteFunc(l, may)
}

// samples are budgets that may be, of every kind, but few.
func samples() []Budget {
	return []Budget{
		{Now: api.Reserve{Q: 2, P: 5}, Left: 2, Start: 10, End: 15},
		{Now: api.Reserve{Q: 2, P: 5}, Next: api.Reserve{Q: 4, P: 5}, Left: 1, Start: 10, End: 15},
		{Now: api.Reserve{Q: 2, P: 5}, Next: api.Reserve{Q: 1, P: 5}, Dying: true, Start: 0, End: 5},
		{Now: api.Reserve{Q: 1, P: 1}, Dying: true, Left: 1, Start: 1073741824, End: 1073741825},
		{Now: api.Reserve{Q: 1048576, P: 1048576}, Next: api.Reserve{Q: 1, P: 1}, Start: 1073741824, End: 1074790400},
		{Now: api.Reserve{Q: 1, P: 1048576}, Left: 1, Start: 1072693248, End: 1073741824},
	}
}

// oneFault are budgets with one fault each, told with what it is.
func oneFault() map[string]Budget {
	runs := api.Reserve{Q: 2, P: 5}
	long := api.Reserve{Q: 1, P: 1048577}
	return map[string]Budget{
		"the zero Budget":          {},
		"Now is zero":              {Start: 7, End: 7},
		"Now.Q is 0":               {Now: api.Reserve{Q: 0, P: 5}, Start: 10, End: 15},
		"Now.Q is below 0":         {Now: api.Reserve{Q: -1, P: 5}, Start: 10, End: 15},
		"Now.Q is above Now.P":     {Now: api.Reserve{Q: 6, P: 5}, Left: 2, Start: 10, End: 15},
		"Now.P is 0":               {Now: api.Reserve{Q: 1, P: 0}, Start: 10, End: 10},
		"Now.P is below 0":         {Now: api.Reserve{Q: 1, P: -1}, Start: 10, End: 9},
		"Now.P is above the most":  {Now: long, Left: 1, Start: 10, End: 1048587},
		"Next.Q is 0":              {Now: runs, Next: api.Reserve{Q: 0, P: 5}, Left: 2, Start: 10, End: 15},
		"Next.P is 0":              {Now: runs, Next: api.Reserve{Q: 1, P: 0}, Left: 2, Start: 10, End: 15},
		"Next.Q is below 0":        {Now: runs, Next: api.Reserve{Q: -1, P: 5}, Left: 2, Start: 10, End: 15},
		"Next.Q is above Next.P":   {Now: runs, Next: api.Reserve{Q: 6, P: 5}, Left: 2, Start: 10, End: 15},
		"Next.P is above the most": {Now: runs, Next: long, Left: 2, Start: 10, End: 15},
		"Next is Now":              {Now: runs, Next: runs, Left: 2, Start: 10, End: 15},
		"Next is Now, dying":       {Now: runs, Next: runs, Dying: true, Left: 2, Start: 10, End: 15},
		"Left is below 0":          {Now: runs, Left: -1, Start: 10, End: 15},
		"Left is above Now.Q":      {Now: runs, Left: 3, Start: 10, End: 15},
		"Left is above, not Next":  {Now: runs, Next: api.Reserve{Q: 4, P: 5}, Left: 3, Start: 10, End: 15},
		"Start is below 0":         {Now: runs, Left: 2, Start: -1, End: 4},
		"Start is far below 0":     {Now: runs, Left: 2, Start: math.MinInt, End: math.MinInt + 5},
		"Start is above MaxTicks":  {Now: runs, Left: 2, Start: 1073741825, End: 1073741830},
		"Start is the greatest":    {Now: runs, Left: 2, Start: math.MaxInt, End: math.MinInt + 4},
		"End is too early":         {Now: runs, Left: 2, Start: 10, End: 14},
		"End is too late":          {Now: runs, Left: 2, Start: 10, End: 16},
		"End is Start":             {Now: runs, Left: 2, Start: 10, End: 10},
		"End is by Next":           {Now: runs, Next: api.Reserve{Q: 4, P: 6}, Left: 2, Start: 10, End: 16},
	}
}

// result is all that a call answers.
type result struct {
	b    Budget
	gone bool
	n    int
	err  error
}

// calls are all calls of a Budget, with numbers and reservations that bring their other errors, too.
func calls() map[string]func(b Budget) result {
	m := map[string]func(b Budget) result{
		"Valid":    func(b Budget) result { return result{err: Valid(b)} },
		"Take":     func(b Budget) result { n, err := Take(b); return result{b: n, err: err} },
		"Delete":   func(b Budget) result { n, err := Delete(b); return result{b: n, err: err} },
		"Reserved": func(b Budget) result { n, err := Reserved(b); return result{n: n, err: err} },
	}
	for name, r := range map[string]api.Reserve{"1/2": {Q: 1, P: 2}, "4/5": {Q: 4, P: 5}, "6/5": {Q: 6, P: 5}, "0/0": {}} {
		m["Resize to "+name] = func(b Budget) result { n, err := Resize(b, r); return result{b: n, err: err} }
	}
	m["Resize to Now"] = func(b Budget) result { n, err := Resize(b, b.Now); return result{b: n, err: err} }
	m["Resize to Next"] = func(b Budget) result { n, err := Resize(b, b.Next); return result{b: n, err: err} }
	for name, at := range map[string]func(b Budget) int{
		"at End": func(b Budget) int { return b.End }, "behind End": func(b Budget) int { return b.End + 1 },
		"at Start": func(b Budget) int { return b.Start }, "ahead of Start": func(b Budget) int { return b.Start - 1 },
		"at the least": func(Budget) int { return math.MinInt }, "at the greatest": func(Budget) int { return math.MaxInt },
	} {
		m["Cross "+name] = func(b Budget) result { n, gone, err := Cross(b, at(b)); return result{b: n, gone: gone, err: err} }
		m["Fair "+name] = func(b Budget) result { n, err := Fair(b, at(b)); return result{n: n, err: err} }
	}
	return m
}

// BU1: new budgets, up to MaxTicks; a wrong time below 0 is told ahead of a wrong reservation, and that ahead of a time beyond.
func TestNew(t *testing.T) {
	for _, c := range []struct {
		r    api.Reserve
		at   int
		want Budget
		err  error
	}{
		{api.Reserve{Q: 2, P: 5}, 10, Budget{Now: api.Reserve{Q: 2, P: 5}, Left: 2, Start: 10, End: 15}, nil},
		{api.Reserve{Q: 1, P: 1}, 0, Budget{Now: api.Reserve{Q: 1, P: 1}, Left: 1, Start: 0, End: 1}, nil},
		{api.Reserve{Q: 1, P: 3}, 1073741824, Budget{Now: api.Reserve{Q: 1, P: 3}, Left: 1, Start: 1073741824, End: 1073741827}, nil},
		{api.Reserve{Q: 1048576, P: 1048576}, 1073741824, Budget{Now: api.Reserve{Q: 1048576, P: 1048576}, Left: 1048576, Start: 1073741824, End: 1074790400}, nil},
		{api.Reserve{Q: 2, P: 5}, -1, Budget{}, api.ErrArg},
		{api.Reserve{Q: 2, P: 5}, math.MinInt, Budget{}, api.ErrArg},
		{api.Reserve{Q: 2, P: 5}, 1073741825, Budget{}, api.ErrTime},
		{api.Reserve{Q: 2, P: 5}, math.MaxInt, Budget{}, api.ErrTime},
		{api.Reserve{Q: 6, P: 5}, 10, Budget{}, api.ErrRange},
		{api.Reserve{Q: 0, P: 5}, 10, Budget{}, api.ErrRange},
		{api.Reserve{Q: 1, P: 1048577}, 10, Budget{}, api.ErrRange},
		{api.Reserve{}, 10, Budget{}, api.ErrRange},
		{api.Reserve{Q: 6, P: 5}, -1, Budget{}, api.ErrArg},
		{api.Reserve{}, math.MinInt, Budget{}, api.ErrArg},
		{api.Reserve{Q: 6, P: 5}, 1073741825, Budget{}, api.ErrRange},
		{api.Reserve{}, math.MaxInt, Budget{}, api.ErrRange},
	} {
		if got, err := New(c.r, c.at); got != c.want || err != c.err {
			t.Errorf("New(%v, %d) = %v, %v; want %v, %v", c.r, c.at, got, err, c.want, c.err)
		}
	}
	for _, r := range append(reserves(), wrongReserves()...) {
		for _, at := range edges {
			checkNew(t, r, at)
		}
	}
}

// checkNew holds New against the rule.
func checkNew(t *testing.T, r api.Reserve, at int) {
	t.Helper()
	want, wantErr := Budget{Now: r, Left: r.Q, Start: at, End: at + r.P}, error(nil)
	switch {
	case at < 0:
		want, wantErr = Budget{}, api.ErrArg
	case !fits(r):
		want, wantErr = Budget{}, api.ErrRange
	case !isTime(at):
		want, wantErr = Budget{}, api.ErrTime
	}
	if got, err := New(r, at); got != want || err != wantErr {
		t.Errorf("New(%v, %d) = %v, %v; want %v, %v", r, at, got, err, want, wantErr)
	}
}

// BU1: budgets that may be, and such that may not.
func TestValid(t *testing.T) {
	for _, b := range append(fine(), samples()...) {
		if err := Valid(b); err != nil {
			t.Errorf("Valid(%v) = %v", b, err)
		}
	}
	for name, b := range oneFault() {
		if err := Valid(b); err != api.ErrState {
			t.Errorf("%s: Valid(%v) = %v", name, b, err)
		}
	}
	for _, b := range wrong() {
		if err := Valid(b); err != api.ErrState {
			t.Errorf("Valid(%v) = %v", b, err)
		}
	}
	for _, b := range samples() {
		for _, n := range moved(b, edges) {
			if err := Valid(n); (err == nil) != may(n) {
				t.Errorf("Valid(%v) = %v", n, err)
			}
		}
	}
}

// BU1: all calls answer ErrState of a budget that may not be, ahead of all else, and nothing beside it.
func TestStateFirst(t *testing.T) {
	for call, do := range calls() {
		for name, b := range oneFault() {
			if got := do(b); got != (result{err: api.ErrState}) {
				t.Errorf("%s: %s of %v = %v", name, call, b, got)
			}
		}
		for _, b := range wrong() {
			if got := do(b); got != (result{err: api.ErrState}) {
				t.Errorf("%s of %v = %v", call, b, got)
			}
		}
	}
}

// BU2: ticks are taken till nothing is left, and no more; a dying budget gives them too.
func TestTake(t *testing.T) {
	for _, dying := range []bool{false, true} {
		b := Budget{Now: api.Reserve{Q: 3, P: 5}, Next: api.Reserve{Q: 1, P: 5}, Dying: dying, Left: 3, Start: 10, End: 15}
		for _, left := range []int{2, 1, 0} {
			want := b
			want.Left = left
			got, err := Take(b)
			if got != want || err != nil {
				t.Fatalf("Take(%v) = %v, %v", b, got, err)
			}
			b = got
		}
		for range 2 {
			if got, err := Take(b); got != (Budget{}) || err != api.ErrNone {
				t.Errorf("Take(%v) = %v, %v", b, got, err)
			}
		}
	}
	for _, b := range fine() {
		want, wantErr := b, error(nil)
		want.Left--
		if b.Left == 0 {
			want, wantErr = Budget{}, api.ErrNone
		}
		if got, err := Take(b); got != want || err != wantErr {
			t.Errorf("Take(%v) = %v, %v; want %v, %v", b, got, err, want, wantErr)
		}
	}
}

// BU2: what is pending behind a Resize; to what runs, nothing. A wrong reservation is told ahead of a dying budget.
func TestResize(t *testing.T) {
	runs, more, alike := api.Reserve{Q: 2, P: 5}, api.Reserve{Q: 4, P: 5}, api.Reserve{Q: 4, P: 10}
	for _, c := range []struct {
		next  api.Reserve
		dying bool
		to    api.Reserve
		want  api.Reserve
		err   error
	}{
		{api.Reserve{}, false, more, more, nil},
		{api.Reserve{}, false, runs, api.Reserve{}, nil},
		{api.Reserve{}, false, alike, alike, nil}, // the same share, but another reservation
		{more, false, alike, alike, nil},
		{more, false, more, more, nil},
		{more, false, runs, api.Reserve{}, nil},
		{alike, false, api.Reserve{Q: 1, P: 1048576}, api.Reserve{Q: 1, P: 1048576}, nil},
		{api.Reserve{}, true, more, api.Reserve{}, api.ErrDying},
		{api.Reserve{}, true, runs, api.Reserve{}, api.ErrDying},
		{more, true, runs, api.Reserve{}, api.ErrDying},
		{more, true, more, api.Reserve{}, api.ErrDying},
		{more, false, api.Reserve{}, api.Reserve{}, api.ErrRange},
		{more, false, api.Reserve{Q: 6, P: 5}, api.Reserve{}, api.ErrRange},
		{more, true, api.Reserve{}, api.Reserve{}, api.ErrRange},
		{more, true, api.Reserve{Q: 6, P: 5}, api.Reserve{}, api.ErrRange},
		{api.Reserve{}, true, api.Reserve{Q: 1, P: 1048577}, api.Reserve{}, api.ErrRange},
	} {
		b := Budget{Now: runs, Next: c.next, Dying: c.dying, Left: 1, Start: 10, End: 15}
		want := Budget{}
		if c.err == nil {
			want = b
			want.Next = c.want
		}
		if got, err := Resize(b, c.to); got != want || err != c.err {
			t.Errorf("Resize(%v, %v) = %v, %v; want %v, %v", b, c.to, got, err, want, c.err)
		}
	}
	for _, b := range fine() {
		for _, r := range append(reserves(), api.Reserve{}, api.Reserve{Q: 1, P: 1048577}, api.Reserve{Q: 3, P: 2}) {
			checkResize(t, b, r)
		}
	}
	for _, b := range samples() {
		for _, r := range wrongReserves() {
			checkResize(t, b, r)
		}
	}
}

// checkResize holds Resize of a budget that may be against the rule.
func checkResize(t *testing.T, b Budget, r api.Reserve) {
	t.Helper()
	want, wantErr := b, error(nil)
	want.Next = r
	switch {
	case !fits(r):
		want, wantErr = Budget{}, api.ErrRange
	case b.Dying:
		want, wantErr = Budget{}, api.ErrDying
	case same(r, b.Now):
		want.Next = api.Reserve{}
	}
	if got, err := Resize(b, r); got != want || err != wantErr {
		t.Errorf("Resize(%v, %v) = %v, %v; want %v, %v", b, r, got, err, want, wantErr)
	}
}

// BU2: a budget dies once; what is pending stays.
func TestDelete(t *testing.T) {
	for _, next := range []api.Reserve{{}, {Q: 4, P: 5}} {
		b := Budget{Now: api.Reserve{Q: 2, P: 5}, Next: next, Left: 1, Start: 10, End: 15}
		want := Budget{Now: api.Reserve{Q: 2, P: 5}, Next: next, Dying: true, Left: 1, Start: 10, End: 15}
		got, err := Delete(b)
		if got != want || err != nil {
			t.Errorf("Delete(%v) = %v, %v", b, got, err)
		}
		if again, err := Delete(got); again != (Budget{}) || err != api.ErrDying {
			t.Errorf("Delete(%v) = %v, %v", got, again, err)
		}
	}
	for _, b := range fine() {
		want, wantErr := b, error(nil)
		want.Dying = true
		if b.Dying {
			want, wantErr = Budget{}, api.ErrDying
		}
		if got, err := Delete(b); got != want || err != wantErr {
			t.Errorf("Delete(%v) = %v, %v; want %v, %v", b, got, err, want, wantErr)
		}
	}
}

// BU3: what a boundary brings: the same again, what was pending, or nothing; a time that is no boundary is told ahead of one beyond MaxTicks, and that ahead of what goes.
func TestCross(t *testing.T) {
	runs, more, late := api.Reserve{Q: 2, P: 5}, api.Reserve{Q: 4, P: 5}, api.Reserve{Q: 1, P: 1048576}
	nothing := api.Reserve{}
	for _, c := range []struct {
		next  api.Reserve
		dying bool
		left  int
		start int
		at    int
		want  Budget
		gone  bool
		err   error
	}{
		{nothing, false, 0, 10, 15, Budget{Now: runs, Left: 2, Start: 15, End: 20}, false, nil},
		{nothing, false, 2, 10, 15, Budget{Now: runs, Left: 2, Start: 15, End: 20}, false, nil}, // what is left is not kept
		{more, false, 1, 10, 15, Budget{Now: more, Left: 4, Start: 15, End: 20}, false, nil},
		{late, false, 0, 10, 15, Budget{Now: late, Left: 1, Start: 15, End: 1048591}, false, nil},
		{nothing, true, 0, 10, 15, Budget{}, true, nil},
		{nothing, true, 2, 10, 15, Budget{}, true, nil},
		{more, true, 1, 10, 15, Budget{}, true, nil},
		{nothing, false, 0, 0, 5, Budget{Now: runs, Left: 2, Start: 5, End: 10}, false, nil},
		{nothing, false, 0, 1073741819, 1073741824, Budget{Now: runs, Left: 2, Start: 1073741824, End: 1073741829}, false, nil},
		{late, false, 0, 1073741819, 1073741824, Budget{Now: late, Left: 1, Start: 1073741824, End: 1074790400}, false, nil},
		{nothing, true, 0, 1073741819, 1073741824, Budget{}, true, nil},
		{nothing, false, 0, 1073741820, 1073741825, Budget{}, false, api.ErrTime},
		{more, false, 0, 1073741824, 1073741829, Budget{}, false, api.ErrTime},
		{nothing, true, 0, 1073741820, 1073741825, Budget{}, false, api.ErrTime},
		{more, true, 0, 1073741824, 1073741829, Budget{}, false, api.ErrTime},
		{nothing, false, 0, 10, 14, Budget{}, false, api.ErrArg},
		{nothing, false, 0, 10, 16, Budget{}, false, api.ErrArg},
		{nothing, false, 0, 10, 20, Budget{}, false, api.ErrArg},
		{nothing, false, 0, 10, 10, Budget{}, false, api.ErrArg},
		{more, true, 0, 10, 14, Budget{}, false, api.ErrArg},
		{more, true, 0, 10, 16, Budget{}, false, api.ErrArg},
		{more, false, 0, 10, -15, Budget{}, false, api.ErrArg},
		{more, false, 0, 10, math.MinInt, Budget{}, false, api.ErrArg},
		{more, false, 0, 10, math.MaxInt, Budget{}, false, api.ErrArg},
		{more, false, 0, 10, 1073741825, Budget{}, false, api.ErrArg},
		{nothing, false, 0, 1073741820, 1073741824, Budget{}, false, api.ErrArg},
		{nothing, true, 0, 1073741820, 1073741826, Budget{}, false, api.ErrArg},
	} {
		b := Budget{Now: runs, Next: c.next, Dying: c.dying, Left: c.left, Start: c.start, End: c.start + 5}
		if got, gone, err := Cross(b, c.at); got != c.want || gone != c.gone || err != c.err {
			t.Errorf("Cross(%v, %d) = %v, %v, %v; want %v, %v, %v", b, c.at, got, gone, err, c.want, c.gone, c.err)
		}
	}
	for _, b := range fine() {
		for _, at := range append([]int{b.Start - 1, b.Start, b.End - 1, b.End, b.End + 1}, edges...) {
			checkCross(t, b, at)
		}
	}
}

// checkCross holds Cross of a budget that may be against the rule.
func checkCross(t *testing.T, b Budget, at int) {
	t.Helper()
	now := b.Next
	if none(now) {
		now = b.Now
	}
	want := result{b: Budget{Now: now, Left: now.Q, Start: at, End: at + now.P}}
	switch {
	case at != b.End:
		want = result{err: api.ErrArg}
	case !isTime(at):
		want = result{err: api.ErrTime}
	case b.Dying:
		want = result{gone: true}
	}
	got := result{}
	got.b, got.gone, got.err = Cross(b, at)
	if got != want {
		t.Errorf("Cross(%v, %d) = %v; want %v", b, at, got, want)
	}
}

// BU4: the greater share is reserved, be it the one that runs or the one pending; of a dying budget too.
func TestReserved(t *testing.T) {
	for _, c := range []struct {
		now, next api.Reserve
		want      int
	}{
		{api.Reserve{Q: 2, P: 5}, api.Reserve{}, 419431},
		{api.Reserve{Q: 2, P: 5}, api.Reserve{Q: 4, P: 5}, 838861},
		{api.Reserve{Q: 4, P: 5}, api.Reserve{Q: 2, P: 5}, 838861},
		{api.Reserve{Q: 2, P: 5}, api.Reserve{Q: 4, P: 10}, 419431},
		{api.Reserve{Q: 1, P: 3}, api.Reserve{}, 349526},
		{api.Reserve{Q: 1, P: 3}, api.Reserve{Q: 333333, P: 1000000}, 349526},
		{api.Reserve{Q: 1, P: 1}, api.Reserve{Q: 1048575, P: 1048576}, 1048576},
		{api.Reserve{Q: 1, P: 1048576}, api.Reserve{}, 1},
		{api.Reserve{Q: 1, P: 1048576}, api.Reserve{Q: 1, P: 1048575}, 2},
		{api.Reserve{Q: 1, P: 1048575}, api.Reserve{Q: 1, P: 1048576}, 2},
		{api.Reserve{Q: 1, P: 2}, api.Reserve{Q: 3, P: 1048576}, 524288}, // the greater budget is not the greater share
	} {
		for _, dying := range []bool{false, true} {
			b := Budget{Now: c.now, Next: c.next, Dying: dying, Start: 10, End: 10 + c.now.P}
			if got, err := Reserved(b); got != c.want || err != nil {
				t.Errorf("Reserved(%v) = %d, %v; want %d", b, got, err, c.want)
			}
		}
	}
	for _, b := range fine() {
		if got, err := Reserved(b); got != max(units(b.Now), units(b.Next)) || err != nil {
			t.Errorf("Reserved(%v) = %d, %v", b, got, err)
		}
	}
}

// BU4: a steady supply of what runs, rounded down, from Start to End.
func TestFair(t *testing.T) {
	short := Budget{Now: api.Reserve{Q: 2, P: 5}, Next: api.Reserve{Q: 5, P: 5}, Start: 10, End: 15}
	long := Budget{Now: api.Reserve{Q: 1048575, P: 1048576}, Left: 7, Start: 1073741824, End: 1074790400}
	for _, c := range []struct {
		b    Budget
		at   int
		want int
		err  error
	}{
		{short, 10, 0, nil}, {short, 11, 0, nil}, {short, 12, 0, nil}, {short, 13, 1, nil}, {short, 14, 1, nil}, {short, 15, 2, nil},
		{short, 9, 0, api.ErrArg}, {short, 16, 0, api.ErrArg}, {short, 0, 0, api.ErrArg}, {short, -10, 0, api.ErrArg},
		{short, math.MinInt, 0, api.ErrArg}, {short, math.MaxInt, 0, api.ErrArg},
		{long, 1073741823, 0, api.ErrArg}, {long, 1073741824, 0, nil}, {long, 1073741825, 0, nil}, {long, 1073741826, 1, nil},
		{long, 1074790399, 1048574, nil}, {long, 1074790400, 1048575, nil}, {long, 1074790401, 0, api.ErrArg},
	} {
		if got, err := Fair(c.b, c.at); got != c.want || err != c.err {
			t.Errorf("Fair(%v, %d) = %d, %v; want %d, %v", c.b, c.at, got, err, c.want, c.err)
		}
	}
	for _, b := range fine() {
		for _, at := range append([]int{b.Start - 1, b.Start, b.Start + 1, b.Start + b.Now.P/2, b.End - 1, b.End, b.End + 1}, edges...) {
			checkFair(t, b, at)
		}
	}
}

// checkFair holds Fair of a budget that may be against the rule.
func checkFair(t *testing.T, b Budget, at int) {
	t.Helper()
	want, wantErr := 0, error(api.ErrArg)
	if within(at, b.Start, b.End) {
		product := new(big.Int).Mul(big.NewInt(int64(b.Now.Q)), big.NewInt(int64(at-b.Start)))
		want, wantErr = int(product.Div(product, big.NewInt(int64(b.Now.P))).Int64()), nil
	}
	if got, err := Fair(b, at); got != want || err != wantErr {
		t.Errorf("Fair(%v, %d) = %d, %v; want %d, %v", b, at, got, err, want, wantErr)
	}
}

// BU1 to BU4: the chapter's examples.
func TestExamples(t *testing.T) {
	b, err := New(api.Reserve{Q: 2, P: 5}, 10)
	if b.Left != 2 || b.End != 15 || err != nil {
		t.Fatalf("New: %v, %v", b, err)
	}
	for at, want := range map[int]int{12: 0, 13: 1} {
		if got, err := Fair(b, at); got != want || err != nil {
			t.Errorf("Fair at %d: %d, %v", at, got, err)
		}
	}
	b, err = Resize(b, api.Reserve{Q: 4, P: 5})
	if units, shareErr := Reserved(b); units != 838861 || shareErr != nil || err != nil {
		t.Errorf("Reserved: %d, %v, %v", units, shareErr, err)
	}
	b, gone, err := Cross(b, 15)
	if b != (Budget{Now: api.Reserve{Q: 4, P: 5}, Left: 4, Start: 15, End: 20}) || gone || err != nil {
		t.Errorf("Cross: %v, %v, %v", b, gone, err)
	}
	b, err = Delete(b)
	if err != nil {
		t.Errorf("Delete: %v", err)
	}
	if b, gone, err = Cross(b, 20); b != (Budget{}) || !gone || err != nil {
		t.Errorf("Cross at 20: %v, %v, %v", b, gone, err)
	}
}

// P8: a budget is as it was behind each call, and the same call of it answers the same.
func TestArgumentStays(t *testing.T) {
	for call, do := range calls() {
		for _, was := range fine() {
			b := was
			first := do(b)
			if b != was {
				t.Fatalf("%s of %v: it is %v now", call, was, b)
			}
			if again := do(b); again != first {
				t.Fatalf("%s of %v = %v, then %v", call, b, first, again)
			}
		}
	}
}

// BU5: whatever is resized and deleted meanwhile, a whole period gives Now.Q ticks, and no more; the last one, in which the budget dies, too.
func TestTakesOfPeriod(t *testing.T) {
	others := []api.Reserve{{Q: 1, P: 1}, {Q: 1, P: 2}, {Q: 7, P: 7}, {Q: 100000, P: 1048576}}
	for _, r := range append(others, api.Reserve{Q: 2, P: 5}, api.Reserve{Q: 4, P: 5}, api.Reserve{Q: 1000, P: 1048576}) {
		life := row{b: must(t)(New(r, 10))}
		for _, last := range []bool{false, false, true} {
			if last {
				life.drop(t)
			}
			for life.taken < life.b.Now.Q {
				life.take(t)
				life.resize(t, others[life.taken%len(others)])
			}
			life.resize(t, others[life.taken%len(others)])
			if got, err := Take(life.b); got != (Budget{}) || err != api.ErrNone {
				t.Errorf("Take(%v) behind %d ticks = %v, %v", life.b, life.taken, got, err)
			}
			if there := life.cross(t); there == last {
				t.Errorf("behind the boundary of %v: %v", r, life.b)
			}
		}
	}
}

// must hands on a budget that has to be there.
func must(t *testing.T) func(b Budget, err error) Budget {
	return func(b Budget, err error) Budget {
		t.Helper()
		if err != nil {
			t.Fatal(err)
		}
		return b
	}
}

// cross is a budget behind its boundary, which must be let across.
func cross(t *testing.T, b Budget) (Budget, bool) {
	t.Helper()
	next, gone, err := Cross(b, b.End)
	if err != nil {
		t.Fatalf("Cross(%v): %v", b, err)
	}
	return next, gone
}

// row is a budget's life, and how many ticks were taken since its last boundary.
type row struct {
	b     Budget
	taken int
}

// BU5: rows of all calls, by chance, up to the last times: no ticks beyond Now.Q, none missing; what is reserved sinks at no other place than where it may.
func TestRows(t *testing.T) {
	chance := rand.New(rand.NewSource(7))
	small := func() api.Reserve {
		p := 1 + chance.Intn(6)
		return api.Reserve{Q: 1 + chance.Intn(p), P: p}
	}
	great := func() api.Reserve { return reserves()[chance.Intn(len(reserves()))] }
	for n := range 4000 {
		pick := small
		if n%4 == 0 {
			pick = great
		}
		at := []int{0, 10, 1073741824 - 40, 1073741824 - 1048576, 1073741824}[n%5]
		life := row{b: must(t)(New(pick(), at))}
		for range 60 {
			if !life.step(t, chance.Intn(8), pick()) {
				break
			}
		}
	}
}

// step does one thing with a budget, and tells whether it is there still.
func (l *row) step(t *testing.T, what int, r api.Reserve) bool {
	t.Helper()
	switch what {
	case 0:
		return l.cross(t)
	case 1, 2:
		l.resize(t, r)
	case 3:
		l.resize(t, l.b.Now)
	case 4:
		if r.Q == r.P { // seldom: else no row would be long
			l.drop(t)
		}
	default:
		l.take(t)
	}
	if !may(l.b) {
		t.Fatalf("a row led to %v", l.b)
	}
	return true
}

// take takes a tick, which must be there just as long as fewer than Now.Q went in this period.
func (l *row) take(t *testing.T) {
	t.Helper()
	next, err := Take(l.b)
	if (err == nil) != (l.taken < l.b.Now.Q) {
		t.Fatalf("Take(%v) behind %d ticks: %v", l.b, l.taken, err)
	}
	if err != nil {
		return
	}
	l.taken++
	l.keeps(t, next)
}

// resize makes another reservation pending: the one that runs stays, and what is reserved sinks nowhere but where more was pending, and is taken back.
func (l *row) resize(t *testing.T, r api.Reserve) {
	t.Helper()
	next, err := Resize(l.b, r)
	if (err == nil) == l.b.Dying {
		t.Fatalf("Resize(%v, %v): %v", l.b, r, err)
	}
	if err != nil {
		return
	}
	if sinks(t, l.b, next) && units(l.b.Next) <= units(l.b.Now) {
		t.Fatalf("Resize(%v, %v) sinks, with nothing more pending", l.b, r)
	}
	if got := reserved(t, next); got != max(units(next.Now), units(r)) {
		t.Fatalf("Resize(%v, %v): %d reserved", l.b, r, got)
	}
	if next.Now != l.b.Now || next.Left != l.b.Left || next.End != l.b.End {
		t.Fatalf("Resize(%v, %v) = %v", l.b, r, next)
	}
	l.b = next
}

// drop deletes the budget: nothing else changes by that.
func (l *row) drop(t *testing.T) {
	t.Helper()
	next, err := Delete(l.b)
	if (err == nil) == l.b.Dying {
		t.Fatalf("Delete(%v): %v", l.b, err)
	}
	if err == nil {
		l.keeps(t, next)
	}
}

// keeps goes on with a budget behind a call by which nothing sinks.
func (l *row) keeps(t *testing.T, next Budget) {
	t.Helper()
	if reserved(t, next) != reserved(t, l.b) {
		t.Fatalf("%v reserves another share than %v", next, l.b)
	}
	l.b = next
}

// cross brings the boundary, where it is a time: as much is left then as was pending, or ran.
func (l *row) cross(t *testing.T) bool {
	t.Helper()
	if l.b.End > 1073741824 {
		if got, gone, err := Cross(l.b, l.b.End); got != (Budget{}) || gone || err != api.ErrTime {
			t.Fatalf("Cross(%v, %d) = %v, %v, %v", l.b, l.b.End, got, gone, err)
		}
		return false
	}
	if ticks, err := Fair(l.b, l.b.End); ticks != l.b.Now.Q || err != nil {
		t.Fatalf("Fair(%v, %d) = %d, %v", l.b, l.b.End, ticks, err)
	}
	next, gone := cross(t, l.b)
	if gone != l.b.Dying {
		t.Fatalf("Cross(%v): gone %v", l.b, gone)
	}
	if gone {
		return false
	}
	// What runs behind the boundary was reserved ahead of it.
	if reserved(t, next) > reserved(t, l.b) || next.Left != next.Now.Q || next.Start != l.b.End || !may(next) {
		t.Fatalf("Cross(%v) = %v", l.b, next)
	}
	l.b, l.taken = next, 0
	return true
}

// reserved is what must be reserved for a budget that may be.
func reserved(t *testing.T, b Budget) int {
	t.Helper()
	n, err := Reserved(b)
	if err != nil {
		t.Fatalf("Reserved(%v): %v", b, err)
	}
	return n
}

// sinks tells whether less is reserved than was.
func sinks(t *testing.T, was, is Budget) bool {
	t.Helper()
	return reserved(t, is) < reserved(t, was)
}
