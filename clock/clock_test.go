package clock

import (
	"math"
	"math/big"
	"math/rand"
	"slices"
	"strconv"
	"strings"
	"testing"

	"tithe/api"
)

// edges are numbers at which something might change, wrong ones among them; as times, as periods and as ends of spans.
var edges = []int{
	math.MinInt, math.MinInt + 1, -1 << 32, -api.MaxTicks, -api.MaxPeriod, -2, -1, 0, 1, 2, 3, 6, 255, 256,
	api.MaxPeriod - 1, api.MaxPeriod, api.MaxPeriod + 1, api.MaxTicks - api.MaxPeriod, api.MaxTicks - 1, api.MaxTicks, api.MaxTicks + 1,
	api.MaxTicks + api.MaxPeriod - 1, api.MaxTicks + api.MaxPeriod, api.MaxTicks + api.MaxPeriod + 1,
	1 << 32, 1<<32 + 1, 1 << 52, math.MaxInt - api.MaxPeriod, math.MaxInt - 1, math.MaxInt,
}

// within tells whether n is from low to high; wide tells the same of a difference that no int may have.
func within(n, low, high int) bool { return !(n < low) && !(n > high) }
func wide(from, to, low, high int) bool {
	by := new(big.Int).Sub(big.NewInt(int64(to)), big.NewInt(int64(from)))
	return by.Cmp(big.NewInt(int64(low))) >= 0 && by.Cmp(big.NewInt(int64(high))) <= 0
}

// The chapter's words, with its numbers written out.
func time(n int) bool   { return within(n, 0, 1073741824) }
func period(p int) bool { return within(p, 1, 1048576) }
func may(s Span) bool   { return time(s.Start) && wide(s.Start, s.End, 1, 1048576) }

// spans are spans of the edges, both such that may be and such that may not.
func spans() []Span {
	var l []Span
	for _, start := range edges {
		for _, end := range edges {
			l = append(l, Span{start, end})
		}
		for _, by := range []int{-1, 0, 1, 2, 5, 1048575, 1048576, 1048577} {
			l = append(l, Span{start, start + by}) // of the greatest ones with wrap-round: they may not be
		}
	}
	return l
}

// fine are the spans of the edges that may be.
func fine() []Span {
	return slices.DeleteFunc(spans(), func(s Span) bool { return !may(s) })
}

// wrong are the spans of the edges that may not be.
func wrong() []Span {
	return slices.DeleteFunc(spans(), may)
}

// CL1: times later, up to MaxTicks; n below 0 is told ahead of what is beyond.
func TestTick(t *testing.T) {
	for _, c := range []struct {
		now, n, want int
		err          error
	}{
		{0, 0, 0, nil},
		{0, 1, 1, nil},
		{3, 4, 7, nil},
		{0, 1073741824, 1073741824, nil},
		{1073741824, 0, 1073741824, nil},
		{1073741823, 1, 1073741824, nil},
		{1, 1073741823, 1073741824, nil},
		{1073741824, 1, 0, api.ErrTime},
		{1, 1073741824, 0, api.ErrTime},
		{0, 1073741825, 0, api.ErrTime},
		{1, math.MaxInt, 0, api.ErrTime},
		{1073741824, math.MaxInt, 0, api.ErrTime},
		{-1, 1, 0, api.ErrArg},
		{-1, math.MaxInt, 0, api.ErrArg},
		{1, -1, 0, api.ErrArg},
		{1, math.MinInt, 0, api.ErrArg},
		{math.MinInt, math.MinInt, 0, api.ErrArg},
		{1073741825, 0, 0, api.ErrArg},
		{1073741825, -1, 0, api.ErrArg},
		{math.MaxInt, math.MaxInt, 0, api.ErrArg},
	} {
		if got, err := Tick(c.now, c.n); got != c.want || err != c.err {
			t.Errorf("Tick(%d, %d) = %d, %v; want %d, %v", c.now, c.n, got, err, c.want, c.err)
		}
	}
	for _, now := range edges {
		for _, n := range edges {
			checkTick(t, now, n)
		}
	}
}

// checkTick holds Tick against the rule.
func checkTick(t *testing.T, now, n int) {
	t.Helper()
	want, wantErr := now+n, error(nil)
	switch {
	case !time(now) || n < 0:
		want, wantErr = 0, api.ErrArg
	case !wide(-now, n, math.MinInt, 1073741824):
		want, wantErr = 0, api.ErrTime
	}
	if got, err := Tick(now, n); got != want || err != wantErr {
		t.Errorf("Tick(%d, %d) = %d, %v; want %d, %v", now, n, got, err, want, wantErr)
	}
}

// CL1: first periods; one that begins at MaxTicks ends behind it. A wrong time is told ahead of a wrong period.
func TestFirst(t *testing.T) {
	for _, c := range []struct {
		now, p int
		want   Span
		err    error
	}{
		{0, 1, Span{0, 1}, nil},
		{3, 5, Span{3, 8}, nil},
		{0, 1048576, Span{0, 1048576}, nil},
		{1073741824, 1, Span{1073741824, 1073741825}, nil},
		{1073741824, 1048576, Span{1073741824, 1074790400}, nil},
		{0, 0, Span{}, api.ErrRange},
		{0, -1, Span{}, api.ErrRange},
		{3, 1048577, Span{}, api.ErrRange},
		{3, math.MinInt, Span{}, api.ErrRange},
		{3, math.MaxInt, Span{}, api.ErrRange},
		{-1, 1, Span{}, api.ErrArg},
		{1073741825, 1, Span{}, api.ErrArg},
		{-1, 0, Span{}, api.ErrArg},
		{1073741825, 1048577, Span{}, api.ErrArg},
		{math.MaxInt, math.MaxInt, Span{}, api.ErrArg},
	} {
		if got, err := First(c.now, c.p); got != c.want || err != c.err {
			t.Errorf("First(%d, %d) = %v, %v; want %v, %v", c.now, c.p, got, err, c.want, c.err)
		}
	}
	for _, now := range edges {
		for _, p := range edges {
			checkFirst(t, now, p)
		}
	}
}

// checkFirst holds First against the rule.
func checkFirst(t *testing.T, now, p int) {
	t.Helper()
	want, wantErr := Span{now, now + p}, error(nil)
	switch {
	case !time(now):
		want, wantErr = Span{}, api.ErrArg
	case !period(p):
		want, wantErr = Span{}, api.ErrRange
	}
	if got, err := First(now, p); got != want || err != wantErr {
		t.Errorf("First(%d, %d) = %v, %v; want %v, %v", now, p, got, err, want, wantErr)
	}
}

// CL1: the period behind, where a span ends at MaxTicks too; a span that may not be is told ahead of a wrong period, and that ahead of a time beyond.
func TestNext(t *testing.T) {
	for _, c := range []struct {
		s    Span
		p    int
		want Span
		err  error
	}{
		{Span{3, 8}, 4, Span{8, 12}, nil},
		{Span{0, 1}, 1, Span{1, 2}, nil},
		{Span{0, 1048576}, 1048576, Span{1048576, 2097152}, nil},
		{Span{1073741823, 1073741824}, 7, Span{1073741824, 1073741831}, nil},
		{Span{1073741823, 1073741824}, 1048576, Span{1073741824, 1074790400}, nil},
		{Span{1073741823, 1073741825}, 1, Span{}, api.ErrTime},
		{Span{1073741824, 1073741825}, 1, Span{}, api.ErrTime},
		{Span{1073741824, 1074790400}, 1048576, Span{}, api.ErrTime},
		{Span{1073741824, 1073741825}, 0, Span{}, api.ErrRange},
		{Span{1073741824, 1074790400}, 1048577, Span{}, api.ErrRange},
		{Span{3, 8}, 0, Span{}, api.ErrRange},
		{Span{3, 8}, -1, Span{}, api.ErrRange},
		{Span{3, 8}, 1048577, Span{}, api.ErrRange},
		{Span{3, 8}, math.MaxInt, Span{}, api.ErrRange},
		{Span{3, 8}, math.MinInt, Span{}, api.ErrRange},
		{Span{}, 4, Span{}, api.ErrArg},
		{Span{}, 0, Span{}, api.ErrArg},
		{Span{8, 3}, 4, Span{}, api.ErrArg},
		{Span{-1, 3}, 4, Span{}, api.ErrArg},
		{Span{0, 1048577}, 4, Span{}, api.ErrArg},
		{Span{1073741825, 1073741826}, 4, Span{}, api.ErrArg},
		{Span{1073741825, 1073741826}, -4, Span{}, api.ErrArg},
	} {
		if got, err := Next(c.s, c.p); got != c.want || err != c.err {
			t.Errorf("Next(%v, %d) = %v, %v; want %v, %v", c.s, c.p, got, err, c.want, c.err)
		}
	}
	for _, s := range spans() {
		for _, p := range edges {
			checkNext(t, s, p)
		}
	}
}

// checkNext holds Next against the rule.
func checkNext(t *testing.T, s Span, p int) {
	t.Helper()
	want, wantErr := Span{s.End, s.End + p}, error(nil)
	switch {
	case !may(s):
		want, wantErr = Span{}, api.ErrArg
	case !period(p):
		want, wantErr = Span{}, api.ErrRange
	case s.End > 1073741824:
		want, wantErr = Span{}, api.ErrTime
	}
	if got, err := Next(s, p); got != want || err != wantErr {
		t.Errorf("Next(%v, %d) = %v, %v; want %v, %v", s, p, got, err, want, wantErr)
	}
}

// CL2: a span may be from one tick to MaxPeriod long, wherever it starts up to MaxTicks.
func TestValid(t *testing.T) {
	for _, s := range []Span{{0, 1}, {3, 8}, {0, 1048576}, {1, 1048577}, {1073741824, 1073741825}, {1073741824, 1074790400}, {1072693248, 1073741824}} {
		if !Valid(s) {
			t.Errorf("Valid(%v) = false", s)
		}
	}
	for _, s := range []Span{
		{0, 0}, {3, 3}, {8, 3}, {-1, 1}, {-1, 0}, {0, 1048577}, {1, 1048578}, {1073741824, 1073741824}, {1073741824, 1074790401}, {1073741825, 1073741826},
		{math.MaxInt, math.MinInt}, {math.MinInt, math.MinInt + 1}, {math.MinInt, math.MaxInt}, {math.MaxInt - 1, math.MaxInt}, {0, math.MaxInt}, {0, math.MinInt}, {1, math.MinInt},
	} {
		if Valid(s) {
			t.Errorf("Valid(%v) = true", s)
		}
	}
	for _, s := range spans() {
		if Valid(s) != may(s) {
			t.Errorf("Valid(%v) = %v", s, Valid(s))
		}
	}
}

// CL2: what a span has, what is left of it, and its end, told at each time around it.
func TestInSpan(t *testing.T) {
	s := Span{3, 8}
	for now, want := range []struct {
		has  bool
		left int
		edge bool
	}{
		{false, 0, false}, {false, 0, false}, {false, 0, false},
		{true, 5, false}, {true, 4, false}, {true, 3, false}, {true, 2, false}, {true, 1, false},
		{false, 0, true}, {false, 0, false}, {false, 0, false},
	} {
		if has, left, edge := Has(s, now), Left(s, now), Edge(s, now); has != want.has || left != want.left || edge != want.edge {
			t.Errorf("%v at %d: %v, %d, %v; want %v", s, now, has, left, edge, want)
		}
	}
}

// CL2: of each span that may be, beside each of its ends and at the edges; of another one false, 0, false, wherever it is asked.
func TestInSpanEdges(t *testing.T) {
	for _, s := range spans() {
		near := []int{s.Start - 1, s.Start, s.Start + 1, s.End - 1, s.End, s.End + 1}
		for _, now := range append(near, edges...) {
			checkIn(t, s, now)
		}
	}
}

// checkIn holds Has, Left and Edge against the rule.
func checkIn(t *testing.T, s Span, now int) {
	t.Helper()
	has, left, edge := may(s) && within(now, s.Start, s.End-1), 0, may(s) && now == s.End
	if may(s) && within(now, s.Start, s.End) {
		left = s.End - now
	}
	if got := Has(s, now); got != has {
		t.Errorf("Has(%v, %d) = %v", s, now, got)
	}
	if got := Left(s, now); got != left {
		t.Errorf("Left(%v, %d) = %d; want %d", s, now, got, left)
	}
	if got := Edge(s, now); got != edge {
		t.Errorf("Edge(%v, %d) = %v", s, now, got)
	}
}

// CL2: what two spans share: such that overlap, lie in one another, touch, and lie apart.
func TestMeet(t *testing.T) {
	for _, c := range []struct {
		a, b, want Span
		ok         bool
	}{
		{Span{3, 8}, Span{5, 12}, Span{5, 8}, true},
		{Span{3, 8}, Span{3, 8}, Span{3, 8}, true},
		{Span{3, 8}, Span{4, 6}, Span{4, 6}, true},
		{Span{3, 8}, Span{3, 4}, Span{3, 4}, true},
		{Span{3, 8}, Span{7, 8}, Span{7, 8}, true},
		{Span{3, 8}, Span{7, 9}, Span{7, 8}, true},
		{Span{3, 8}, Span{8, 9}, Span{}, false},
		{Span{3, 8}, Span{9, 12}, Span{}, false},
		{Span{0, 1}, Span{0, 1048576}, Span{0, 1}, true},
		{Span{0, 1048576}, Span{1048575, 1048577}, Span{1048575, 1048576}, true},
		{Span{0, 1048576}, Span{1048576, 1048577}, Span{}, false},
		{Span{1073741824, 1073741830}, Span{1073741820, 1073741827}, Span{1073741824, 1073741827}, true},
		{Span{1073741824, 1074790400}, Span{1073741824, 1074790400}, Span{1073741824, 1074790400}, true},
		{Span{3, 8}, Span{}, Span{}, false},
		{Span{3, 8}, Span{8, 3}, Span{}, false},
		{Span{3, 8}, Span{5, 5}, Span{}, false},
		{Span{3, 8}, Span{-1, 8}, Span{}, false},
		{Span{3, 8}, Span{3, 1048580}, Span{}, false},
		{Span{1073741824, 1073741830}, Span{1073741825, 1073741830}, Span{}, false},
		{Span{}, Span{}, Span{}, false},
	} {
		for _, pair := range [][2]Span{{c.a, c.b}, {c.b, c.a}} {
			if got, ok := Meet(pair[0], pair[1]); got != c.want || ok != c.ok {
				t.Errorf("Meet(%v, %v) = %v, %v; want %v, %v", pair[0], pair[1], got, ok, c.want, c.ok)
			}
		}
	}
}

// CL2: a span of which nothing may be meets none.
func TestMeetOfWrong(t *testing.T) {
	for _, a := range wrong() {
		for _, b := range append(fine()[:9], wrong()[:9]...) {
			if got, ok := Meet(a, b); got != (Span{}) || ok {
				t.Errorf("Meet(%v, %v) = %v, %v", a, b, got, ok)
			}
			if got, ok := Meet(b, a); got != (Span{}) || ok {
				t.Errorf("Meet(%v, %v) = %v, %v", b, a, got, ok)
			}
		}
	}
}

// CL2: a time is in what two spans share just where it is in both.
func TestMeetIsBoth(t *testing.T) {
	var l []Span
	for start := range 7 {
		for end := range 9 {
			l = append(l, Span{start, end})
		}
	}
	l = append(l, fine()...)
	for _, a := range l {
		for _, b := range l {
			checkMeet(t, a, b)
		}
	}
}

// checkMeet holds Meet against what each of both has.
func checkMeet(t *testing.T, a, b Span) {
	t.Helper()
	got, ok := Meet(a, b)
	if ok != Valid(got) || !ok && got != (Span{}) {
		t.Fatalf("Meet(%v, %v) = %v, %v", a, b, got, ok)
	}
	for _, now := range []int{0, 1, 2, 3, 4, 5, 6, 7, 8, a.Start - 1, a.Start, a.End - 1, a.End, b.Start - 1, b.Start, b.End - 1, b.End} {
		if Has(got, now) != (Has(a, now) && Has(b, now)) {
			t.Errorf("Meet(%v, %v) = %v: at %d", a, b, got, now)
		}
	}
}

// CL3: boundaries and how far, told at and beside boundaries; a wrong time is told ahead of a wrong period.
func TestWhich(t *testing.T) {
	for _, c := range []struct {
		start, p, now, number, far int
		err                        error
	}{
		{3, 5, 14, 2, 1, nil},
		{3, 5, 3, 0, 0, nil},
		{3, 5, 4, 0, 1, nil},
		{3, 5, 7, 0, 4, nil},
		{3, 5, 8, 1, 0, nil},
		{3, 5, 9, 1, 1, nil},
		{0, 1, 0, 0, 0, nil},
		{0, 1, 1073741824, 1073741824, 0, nil},
		{0, 1048576, 1073741824, 1024, 0, nil},
		{1, 1048576, 1073741824, 1023, 1048575, nil},
		{1073741824, 1, 1073741824, 0, 0, nil},
		{1073741824, 1048576, 1073741824, 0, 0, nil},
		{3, 5, 2, 0, 0, api.ErrArg},
		{1073741824, 1, 1073741823, 0, 0, api.ErrArg},
		{-1, 5, 3, 0, 0, api.ErrArg},
		{0, 5, -1, 0, 0, api.ErrArg},
		{0, 5, 1073741825, 0, 0, api.ErrArg},
		{1073741825, 5, 1073741825, 0, 0, api.ErrArg},
		{-7, 5, -3, 0, 0, api.ErrArg},
		{3, 0, 2, 0, 0, api.ErrArg},
		{3, 1048577, 1073741825, 0, 0, api.ErrArg},
		{math.MinInt, 5, math.MaxInt, 0, 0, api.ErrArg},
		{3, 0, 14, 0, 0, api.ErrRange},
		{3, 0, 3, 0, 0, api.ErrRange},
		{3, -5, 14, 0, 0, api.ErrRange},
		{3, 1048577, 14, 0, 0, api.ErrRange},
		{3, math.MinInt, 14, 0, 0, api.ErrRange},
		{3, math.MaxInt, 14, 0, 0, api.ErrRange},
	} {
		if number, far, err := Which(c.start, c.p, c.now); number != c.number || far != c.far || err != c.err {
			t.Errorf("Which(%d, %d, %d) = %d, %d, %v; want %d, %d, %v", c.start, c.p, c.now, number, far, err, c.number, c.far, c.err)
		}
	}
	for _, start := range edges {
		for _, p := range edges {
			for _, now := range edges {
				checkWhich(t, start, p, now)
			}
		}
	}
}

// checkWhich holds Which against the rule: the errors in their order, and what the answer must be.
func checkWhich(t *testing.T, start, p, now int) {
	t.Helper()
	number, far, err := Which(start, p, now)
	wantErr := error(nil)
	switch {
	case !time(start) || !time(now) || now < start:
		wantErr = api.ErrArg
	case !period(p):
		wantErr = api.ErrRange
	}
	if err != wantErr {
		t.Errorf("Which(%d, %d, %d): %v; want %v", start, p, now, err, wantErr)
	}
	if err != nil && (number != 0 || far != 0) || err == nil && (number < 0 || far < 0 || far >= p || start+number*p+far != now) {
		t.Errorf("Which(%d, %d, %d) = %d, %d, %v", start, p, now, number, far, err)
	}
}

// CL3: how many boundaries, told of stretches that begin and end at, ahead of and behind them, such too that are empty, turned round or ahead of the row.
func TestCount(t *testing.T) {
	for _, c := range []struct {
		start, p, from, to, want int
		err                      error
	}{
		{3, 5, 8, 18, 2, nil},
		{3, 5, 7, 18, 3, nil},
		{3, 5, 8, 17, 1, nil},
		{3, 5, 8, 8, 0, nil},
		{3, 5, 7, 8, 1, nil},
		{3, 5, 8, 9, 0, nil},
		{3, 5, 9, 8, 0, nil},
		{3, 5, 18, 8, 0, nil},
		{3, 5, 0, 3, 0, nil},
		{3, 5, 2, 3, 0, nil},
		{3, 5, 0, 8, 1, nil},
		{3, 5, 3, 8, 1, nil},
		{3, 5, 0, 0, 0, nil},
		{100, 5, 0, 50, 0, nil},
		{100, 5, 0, 100, 0, nil},
		{100, 5, 0, 104, 0, nil},
		{100, 5, 0, 105, 1, nil},
		{100, 5, 98, 99, 0, nil},
		{100, 7, 0, 200, 14, nil},
		{0, 1, 0, 1073741824, 1073741824, nil},
		{0, 1048576, 0, 1073741824, 1024, nil},
		{0, 1048576, 1073741823, 1073741824, 1, nil},
		{1073741824, 1, 0, 1073741824, 0, nil},
		{1073741823, 1, 0, 1073741824, 1, nil},
		{0, 1, 1073741824, 0, 0, nil},
		{-1, 5, 0, 9, 0, api.ErrArg},
		{1073741825, 5, 0, 9, 0, api.ErrArg},
		{0, 5, -1, 9, 0, api.ErrArg},
		{0, 5, 1073741825, 9, 0, api.ErrArg},
		{0, 5, 0, 1073741825, 0, api.ErrArg},
		{0, 5, 9, -1, 0, api.ErrArg},
		{0, 0, 9, -1, 0, api.ErrArg},
		{-1, 0, 9, 9, 0, api.ErrArg},
		{math.MinInt, 5, math.MinInt, math.MaxInt, 0, api.ErrArg},
		{0, 0, 0, 9, 0, api.ErrRange},
		{0, 0, 9, 9, 0, api.ErrRange},
		{0, 0, 9, 0, 0, api.ErrRange},
		{0, -1, 9, 0, 0, api.ErrRange},
		{0, 1048577, 9, 0, 0, api.ErrRange},
		{0, 1048577, 0, 9, 0, api.ErrRange},
		{0, math.MaxInt, 0, 9, 0, api.ErrRange},
		{0, math.MinInt, 0, 9, 0, api.ErrRange},
	} {
		if got, err := Count(c.start, c.p, c.from, c.to); got != c.want || err != c.err {
			t.Errorf("Count(%d, %d, %d, %d) = %d, %v; want %d, %v", c.start, c.p, c.from, c.to, got, err, c.want, c.err)
		}
	}
}

// CL3: Count is what is counted one by one.
func TestCountOneByOne(t *testing.T) {
	for start := range 6 {
		for p := 1; p < 6; p++ {
			for from := range 16 {
				for to := range 16 {
					want := 0
					for b := start + p; b <= to; b += p {
						if b > from {
							want++
						}
					}
					if got, err := Count(start, p, from, to); got != want || err != nil {
						t.Errorf("Count(%d, %d, %d, %d) = %d, %v; want %d", start, p, from, to, got, err, want)
					}
				}
			}
		}
	}
}

// CL3: Count at the edges of all that it is given.
func TestCountEdges(t *testing.T) {
	for _, start := range edges {
		for _, p := range edges {
			for _, from := range edges {
				for _, to := range edges {
					checkCount(t, start, p, from, to)
				}
			}
		}
	}
}

// checkCount holds Count against the rule: the errors in their order, and the number of the last boundary taken off by that of the one ahead of the stretch.
func checkCount(t *testing.T, start, p, from, to int) {
	t.Helper()
	want, wantErr := 0, error(nil)
	switch {
	case !time(start) || !time(from) || !time(to):
		wantErr = api.ErrArg
	case !period(p):
		wantErr = api.ErrRange
	case to > from && to > start:
		want, _, _ = Which(start, p, to)
		if from > start {
			ahead, _, _ := Which(start, p, from)
			want -= ahead
		}
	}
	if got, err := Count(start, p, from, to); got != want || err != wantErr {
		t.Errorf("Count(%d, %d, %d, %d) = %d, %v; want %d, %v", start, p, from, to, got, err, want, wantErr)
	}
}

// CL3: shared boundaries that are told; a wrong time is told ahead of a wrong period.
func TestTogether(t *testing.T) {
	for _, c := range []struct {
		s, p, t, q, want int
		ok               bool
		err              error
	}{
		{1, 4, 3, 6, 9, true, nil},
		{0, 4, 1, 6, 0, false, nil},
		{0, 1, 0, 1, 0, true, nil},
		{0, 7, 0, 7, 0, true, nil},
		{0, 7, 7, 7, 7, true, nil},
		{0, 7, 6, 7, 0, false, nil},
		{0, 7, 70, 7, 70, true, nil},
		{5, 7, 5, 3, 5, true, nil},
		{5, 1, 9, 1, 9, true, nil},
		{5, 1, 9, 4, 9, true, nil},
		{5, 4, 9, 1, 9, true, nil},
		{5, 4, 6, 1, 9, true, nil},
		{0, 2, 1, 3, 4, true, nil},
		{0, 3, 1, 2, 3, true, nil},
		{0, 4, 2, 6, 8, true, nil},
		{0, 4, 100, 6, 100, true, nil},
		{0, 4, 102, 6, 108, true, nil},
		{102, 6, 0, 4, 108, true, nil},
		{0, 4, 101, 6, 0, false, nil},
		{1, 6, 4, 9, 13, true, nil},
		{1, 6, 5, 9, 0, false, nil},
		{1073741824, 1, 0, 1048576, 1073741824, true, nil},
		{1073741824, 1048576, 0, 1, 1073741824, true, nil},
		{1073741823, 1048576, 0, 1048576, 0, false, nil},
		{0, 1048576, 1, 1048575, 1048576, true, nil},
		{0, 1048576, 2, 1048575, 2097152, true, nil},
		{1, 1048576, 0, 1048575, 1099509530625, true, nil},
		{1073741823, 1048576, 0, 1048575, 1099511627775, true, nil},
		{1073741824, 1048576, 1073741823, 1048575, 1100583272448, true, nil},
		{1073741823, 1048576, 1073741824, 1048575, 1074790399, true, nil},
		{1073741824, 1048575, 1, 1048576, 1100583272449, true, nil},
		{1073741824, 1048576, 1073741822, 1048574, 550827458560, true, nil},
		{1073741824, 1048576, 1073741823, 1048574, 0, false, nil},
		{1073741824, 999983, 12345, 999979, 813035938232, true, nil},
		{12345, 999979, 1073741824, 999983, 813035938232, true, nil},
		{-1, 4, 3, 6, 0, false, api.ErrArg},
		{1, 4, -1, 6, 0, false, api.ErrArg},
		{1073741825, 4, 3, 6, 0, false, api.ErrArg},
		{1, 4, 1073741825, 6, 0, false, api.ErrArg},
		{math.MinInt, 4, math.MaxInt, 6, 0, false, api.ErrArg},
		{-1, 0, 3, 0, 0, false, api.ErrArg},
		{1, 0, 1073741825, 6, 0, false, api.ErrArg},
		{1, 0, 3, 6, 0, false, api.ErrRange},
		{1, 4, 3, 0, 0, false, api.ErrRange},
		{1, -4, 3, 6, 0, false, api.ErrRange},
		{1, 4, 3, -6, 0, false, api.ErrRange},
		{0, 1048577, 0, 6, 0, false, api.ErrRange},
		{0, 4, 0, 1048577, 0, false, api.ErrRange},
		{0, math.MinInt, 0, math.MinInt, 0, false, api.ErrRange},
		{0, math.MaxInt, 1, math.MaxInt, 0, false, api.ErrRange},
	} {
		if got, ok, err := Together(c.s, c.p, c.t, c.q); got != c.want || ok != c.ok || err != c.err {
			t.Errorf("Together(%d, %d, %d, %d) = %d, %v, %v; want %d, %v, %v", c.s, c.p, c.t, c.q, got, ok, err, c.want, c.ok, c.err)
		}
	}
}

// CL3, CL6: the shared boundary is what one finds who goes along both rows; there is none just where the divisor does not divide how far the rows stand apart.
func TestTogetherOneByOne(t *testing.T) {
	for p := 1; p <= 13; p++ {
		for q := 1; q <= 13; q++ {
			for s := range 15 {
				for at := range 31 {
					checkTogether(t, s, p, at, q)
				}
			}
		}
	}
}

// CL3, CL6: the same of long periods, which share large divisors, small ones and none, and of rows that stand far apart.
func TestTogetherLong(t *testing.T) {
	long := []int{1, 2, 3, 1023, 1024, 1025, 65536, 720720, 999983, 1048572, 1048574, 1048575, 1048576}
	starts := []int{0, 1, 2, 1048575, 1048576, 536870912, 1073741823, 1073741824}
	for _, p := range long {
		for _, q := range long {
			for i, s := range starts {
				checkTogether(t, s, p, starts[(i*3+p)%len(starts)], q)
				checkTogether(t, s, p, 0, q)
			}
		}
	}
}

// CL3: the errors, in their order, at the edges of all that Together is given.
func TestTogetherEdges(t *testing.T) {
	for _, s := range edges {
		for _, p := range edges {
			for _, at := range edges {
				for _, q := range edges {
					checkTogetherErr(t, s, p, at, q)
				}
			}
		}
	}
}

// checkTogetherErr holds what is told as wrong against the rule, and what is told as shared against both rows.
func checkTogetherErr(t *testing.T, s, p, at, q int) {
	t.Helper()
	got, ok, err := Together(s, p, at, q)
	wantErr := error(nil)
	switch {
	case !time(s) || !time(at):
		wantErr = api.ErrArg
	case !period(p) || !period(q):
		wantErr = api.ErrRange
	}
	if err != wantErr {
		t.Errorf("Together(%d, %d, %d, %d): %v; want %v", s, p, at, q, err, wantErr)
	}
	if !ok && got != 0 || ok && (err != nil || got < max(s, at) || (got-s)%p != 0 || (got-at)%q != 0) {
		t.Errorf("Together(%d, %d, %d, %d) = %d, %v, %v", s, p, at, q, got, ok, err)
	}
}

// checkTogether holds Together against what is found along the second row: after p of its boundaries the places in the first row come over again.
func checkTogether(t *testing.T, s, p, at, q int) {
	t.Helper()
	want, found := at, false
	if s > at {
		want = at + (s-at+q-1)/q*q
	}
	for range p {
		if (want-s)%p == 0 {
			found = true
			break
		}
		want += q
	}
	if !found {
		want = 0
	}
	if got, ok, err := Together(s, p, at, q); got != want || ok != found || err != nil {
		t.Fatalf("Together(%d, %d, %d, %d) = %d, %v, %v; want %d, %v", s, p, at, q, got, ok, err, want, found)
	}
	if found != ((s-at)%Gcd(p, q) == 0) {
		t.Errorf("Together(%d, %d, %d, %d): %v, but Gcd is %d", s, p, at, q, found, Gcd(p, q))
	}
}

// CL4: divisors that are told, of numbers of either sign, of nought and of the least int.
func TestGcd(t *testing.T) {
	for _, c := range []struct{ a, b, want int }{
		{0, 0, 0},
		{0, 5, 5},
		{0, -5, 5},
		{1, 1, 1},
		{1, -7, 1},
		{4, 6, 2},
		{-4, 6, 2},
		{-4, -6, 2},
		{12, 12, 12},
		{-12, 12, 12},
		{12, 36, 12},
		{1048575, 1048576, 1},
		{0, math.MaxInt, math.MaxInt},
		{math.MaxInt, math.MaxInt, math.MaxInt},
		{math.MaxInt, -math.MaxInt, math.MaxInt},
		{math.MaxInt, math.MaxInt - 1, 1},
		{math.MinInt, 0, 0},
		{math.MinInt, math.MinInt, 0},
		{math.MinInt, 1, 1},
		{math.MinInt, -1, 1},
		{math.MinInt, 2, 2},
		{math.MinInt, 6, 2},
		{math.MinInt, -48, 16},
		{math.MinInt, 1 << 62, 1 << 62},
		{math.MinInt, -1 << 62, 1 << 62},
		{math.MinInt, 3 << 61, 1 << 61},
		{math.MinInt, math.MaxInt, 1},
		{math.MinInt, -math.MaxInt, 1},
		{2971215073 * 1836311903, 1836311903 * 1134903170, 1836311903},
		{4660046610375530309, 2880067194370816120, 1}, // two that follow each other in Fibonacci's row: as many steps as there can be
		{7540113804746346429, 4660046610375530309, 1},
	} {
		for _, pair := range [][2]int{{c.a, c.b}, {c.b, c.a}, {-c.a, c.b}, {c.a, -c.b}, {-c.b, -c.a}} {
			if got := Gcd(pair[0], pair[1]); got != c.want {
				t.Errorf("Gcd(%d, %d) = %d; want %d", pair[0], pair[1], got, c.want)
			}
		}
	}
}

// CL4: Gcd is the greatest of all numbers that divide both.
func TestGcdOneByOne(t *testing.T) {
	for a := -40; a <= 40; a++ {
		for b := -40; b <= 40; b++ {
			want := 0
			for n := 1; n <= 40 && (a != 0 || b != 0); n++ {
				if a%n == 0 && b%n == 0 {
					want = n
				}
			}
			if got := Gcd(a, b); got != want {
				t.Errorf("Gcd(%d, %d) = %d; want %d", a, b, got, want)
			}
		}
	}
}

// CL4: Gcd at the edges and of great numbers, by numbers that have no bound.
func TestGcdWide(t *testing.T) {
	r := rand.New(rand.NewSource(6))
	l := slices.Clone(edges)
	for shift := range 63 {
		l = append(l, int(r.Uint64()>>shift), -int(r.Uint64()>>shift), 1<<shift, -3<<shift)
	}
	for _, a := range l {
		for _, b := range l {
			checkGcd(t, a, b)
		}
	}
}

// checkGcd holds Gcd against that of numbers without a bound.
func checkGcd(t *testing.T, a, b int) {
	t.Helper()
	wide := new(big.Int).GCD(nil, nil, new(big.Int).Abs(big.NewInt(int64(a))), new(big.Int).Abs(big.NewInt(int64(b))))
	want := 0
	if wide.IsInt64() {
		want = int(wide.Int64())
	}
	if got := Gcd(a, b); got != want {
		t.Errorf("Gcd(%d, %d) = %d; want %d", a, b, got, want)
	}
}

// CL4: the least numbers that all divide, up to MaxTicks and beyond; a wrong period is told ahead of too great a number, wherever it stands.
func TestHyper(t *testing.T) {
	for _, c := range []struct {
		l    []int
		want int
		err  error
	}{
		{nil, 1, nil},
		{[]int{}, 1, nil},
		{[]int{1}, 1, nil},
		{[]int{7}, 7, nil},
		{[]int{1048576}, 1048576, nil},
		{[]int{4, 6, 10}, 60, nil},
		{[]int{10, 6, 4, 6, 10}, 60, nil},
		{[]int{1, 2, 3, 4, 5, 6, 7, 8, 9, 10}, 2520, nil},
		{[]int{1048576, 1048576, 524288, 1}, 1048576, nil},
		{[]int{1048576, 1023}, 1072693248, nil},
		{[]int{1023, 1048576}, 1072693248, nil},
		{[]int{1048576, 1024}, 1048576, nil},
		{[]int{1048576, 1025}, 0, api.ErrOverflow},
		{[]int{21483, 49981}, 1073741823, nil},
		{[]int{49981, 21483, 9, 331}, 1073741823, nil},
		{[]int{49981, 21483, 2}, 0, api.ErrOverflow},
		{[]int{13325, 80581}, 0, api.ErrOverflow}, // 1073741825
		{[]int{32768, 32767}, 1073709056, nil},
		{[]int{32768, 32769}, 0, api.ErrOverflow},
		{[]int{1048575, 1048576}, 0, api.ErrOverflow},
		{[]int{1048575, 1048576, 1}, 0, api.ErrOverflow},
		{[]int{1048576, 1048575, 1048573, 1048571, 1048569}, 0, api.ErrOverflow},
		{[]int{0}, 0, api.ErrRange},
		{[]int{-1}, 0, api.ErrRange},
		{[]int{1048577}, 0, api.ErrRange},
		{[]int{math.MinInt}, 0, api.ErrRange},
		{[]int{math.MaxInt}, 0, api.ErrRange},
		{[]int{0, 4, 6}, 0, api.ErrRange},
		{[]int{4, 0, 6}, 0, api.ErrRange},
		{[]int{4, 6, -10}, 0, api.ErrRange},
		{[]int{1048575, 1048576, 0}, 0, api.ErrRange},
		{[]int{0, 1048575, 1048576}, 0, api.ErrRange},
		{[]int{1048575, 1048576, 1048577}, 0, api.ErrRange},
	} {
		if got, err := Hyper(c.l); got != c.want || err != c.err {
			t.Errorf("Hyper(%v) = %d, %v; want %d, %v", c.l, got, err, c.want, c.err)
		}
	}
}

// CL4: 4,096 periods are taken, and no more; their number is told ahead of wrong ones, and of too great an answer.
func TestHyperOfMany(t *testing.T) {
	for _, c := range []struct {
		p, many, want int
		err           error
	}{
		{1, 4096, 1, nil},
		{720720, 4095, 720720, nil},
		{1048576, 4096, 1048576, nil},
		{0, 4096, 0, api.ErrRange},
		{1, 4097, 0, api.ErrLong},
		{0, 4097, 0, api.ErrLong},
		{1048577, 65536, 0, api.ErrLong},
	} {
		if got, err := Hyper(slices.Repeat([]int{c.p}, c.many)); got != c.want || err != c.err {
			t.Errorf("Hyper of %d times %d = %d, %v; want %d, %v", c.many, c.p, got, err, c.want, c.err)
		}
	}
	l := slices.Repeat([]int{1048575, 1048576}, 2048)
	if got, err := Hyper(l); got != 0 || err != api.ErrOverflow {
		t.Errorf("Hyper of 4096, too great = %d, %v", got, err)
	}
	if got, err := Hyper(append(l, 1)); got != 0 || err != api.ErrLong {
		t.Errorf("Hyper of 4097, too great = %d, %v", got, err)
	}
	l[4095] = 0
	if got, err := Hyper(l); got != 0 || err != api.ErrRange {
		t.Errorf("Hyper of 4096, the last one wrong = %d, %v", got, err)
	}
}

// CL4, CL6: Hyper is divided by each, and nothing less is; of two it is their product by their Gcd.
func TestHyperIsLeast(t *testing.T) {
	for a := 1; a <= 12; a++ {
		for b := 1; b <= 12; b++ {
			if got, err := Hyper([]int{a, b}); got != a*b/Gcd(a, b) || err != nil {
				t.Errorf("Hyper of %d, %d = %d, %v", a, b, got, err)
			}
			for c := 1; c <= 12; c++ {
				want := 1
				for want%a != 0 || want%b != 0 || want%c != 0 {
					want++
				}
				if got, err := Hyper([]int{a, b, c}); got != want || err != nil {
					t.Errorf("Hyper of %d, %d, %d = %d, %v; want %d", a, b, c, got, err, want)
				}
			}
		}
	}
}

// CL4, CL6: lists by chance, short and long periods, held against numbers that have no bound.
func TestHyperRows(t *testing.T) {
	r := rand.New(rand.NewSource(4))
	for range 20000 {
		l := make([]int, r.Intn(6))
		for i := range l {
			l[i] = 1 + r.Intn(1<<(1+r.Intn(20)))
		}
		checkHyper(t, l)
	}
}

// checkHyper holds Hyper against numbers that have no bound.
func checkHyper(t *testing.T, l []int) {
	t.Helper()
	given := slices.Clone(l)
	want, wantErr := 0, error(nil)
	switch least := leastCommon(l); {
	case len(l) > 4096:
		wantErr = api.ErrLong
	case least == nil:
		wantErr = api.ErrRange
	case least.Cmp(big.NewInt(1073741824)) > 0:
		wantErr = api.ErrOverflow
	default:
		want = int(least.Int64())
	}
	if got, err := Hyper(l); got != want || err != wantErr {
		t.Fatalf("Hyper(%v) = %d, %v; want %d, %v", l, got, err, want, wantErr)
	}
	if !slices.Equal(l, given) {
		t.Fatalf("Hyper(%v): the list is %v now", given, l)
	}
}

// leastCommon is the least number that all divide; nil, if one is no period.
func leastCommon(l []int) *big.Int {
	least := big.NewInt(1)
	for _, n := range l {
		if !period(n) {
			return nil
		}
		p := big.NewInt(int64(n))
		divisor := new(big.Int).GCD(nil, nil, least, p)
		least.Mul(least, p.Div(p, divisor))
	}
	return least
}

// Rule 3 for Hyper: the list is not changed, nor what lies behind it.
func TestListStays(t *testing.T) {
	whole := []int{4, 6, 10, 7}
	for n := range whole {
		if _, err := Hyper(whole[:n]); err != nil {
			t.Errorf("Hyper of %d: %v", n, err)
		}
	}
	if !slices.Equal(whole, []int{4, 6, 10, 7}) {
		t.Errorf("changed to %v", whole)
	}
}

// CL5: spans that are told, the shortest and the longest texts among them; nothing of a span that may not be.
func TestShow(t *testing.T) {
	for _, c := range []struct {
		s    Span
		want string
	}{
		{Span{3, 8}, "[3,8)"},
		{Span{0, 1}, "[0,1)"},
		{Span{0, 10}, "[0,10)"},
		{Span{9, 10}, "[9,10)"},
		{Span{0, 1048576}, "[0,1048576)"},
		{Span{100, 1048676}, "[100,1048676)"},
		{Span{999999999, 1000000000}, "[999999999,1000000000)"},
		{Span{1073741824, 1073741825}, "[1073741824,1073741825)"},
		{Span{1073741824, 1074790400}, "[1073741824,1074790400)"},
		{Span{}, ""},
		{Span{3, 3}, ""},
		{Span{8, 3}, ""},
		{Span{-1, 1}, ""},
		{Span{0, 1048577}, ""},
		{Span{1073741825, 1073741826}, ""},
		{Span{math.MinInt, math.MaxInt}, ""},
		{Span{math.MaxInt, math.MinInt}, ""},
	} {
		if got := Show(c.s); got != c.want {
			t.Errorf("Show(%v) = %q; want %q", c.s, got, c.want)
		}
	}
	for _, s := range wrong() {
		if got := Show(s); got != "" {
			t.Errorf("Show(%v) = %q", s, got)
		}
	}
}

// CL5: what is told is read again: each span of the edges, and many between.
func TestReadOfShow(t *testing.T) {
	l := fine()
	for n := 1; n <= 1048576; n += 1 + n/5 {
		for start := 0; start <= 1073741824; start += 1 + start/3 {
			l = append(l, Span{start, start + n})
		}
	}
	for _, s := range l {
		want := "[" + strconv.FormatInt(int64(s.Start), 10) + "," + strconv.FormatInt(int64(s.End), 10) + ")"
		if Show(s) != want {
			t.Fatalf("Show(%v) = %q", s, Show(s))
		}
		if got, err := Read(want); got != s || err != nil {
			t.Fatalf("Read(%q) = %v, %v", want, got, err)
		}
	}
}

// CL5: a text that no span has is none.
func TestReadOfNone(t *testing.T) {
	for _, text := range []string{
		"", " ", "[", "]", "(", ")", ",", "-", "+", "0", "3", "[)", "[,)", "[]", "[3)", "[3,)", "[,8)", "3,8", "38", "[38)", "[3,8", "3,8)", "3,8]",
		"(3,8)", "[3,8]", "(3,8]", "{3,8)", "[3,8}", "[3;8)", "[3.8)", "[3:8)", "[3 8)", "[3-8)", "[3,,8)", "[3,8,)", "[,3,8)", "[3,8,9)", "[3,8,8)",
		"[[3,8)", "[3,8))", "[[3,8))", ")3,8[", "[3,8)[3,8)", "[3,8)[", "[3,8) ", " [3,8)", "[ 3,8)", "[3 ,8)", "[3, 8)", "[3,8 )", "[3,\t8)", "\n[3,8)", "[3,8)\n", "[3,8)\x00", "\x00[3,8)", "[3\x00,8)",
		"[+3,8)", "[3,+8)", "[-3,8)", "[3,-8)", "[-0,8)", "[-0,1)", "[+0,1)", "[0,-1)", "[--3,8)", "[-1,0)", "[-1,1)",
		"[03,8)", "[3,08)", "[00,8)", "[00,1)", "[0,01)", "[003,008)", "[0x3,8)", "[3,0x8)", "[3_0,80)", "[30,8_0)", "[3,8.0)", "[3,8e0)", "[0b1,8)", "[0o3,8)", "[3'0,80)",
		"[3,3)", "[8,3)", "[0,0)", "[1,0)", "[3,2)",
		"[0,1048577)", "[1,1048578)", "[100,1048677)", "[0,1073741824)", "[1073741824,1073741824)", "[1073741824,1074790401)", "[1073741825,1073741826)", "[1073741824,999)",
		"[2147483647,2147483648)", "[4294967296,4294967297)", "[4294967299,4294967304)", "[3,4294967304)", "[9999999999,10000000000)", "[10000000000,10000000001)", "[3,10000000000)",
		"[3,9223372036854775807)", "[9223372036854775807,3)", "[3,9223372036854775808)", "[3,18446744073709551624)", "[18446744073709551619,8)", "[3,99999999999999999999999999)", "[-9223372036854775808,8)", "[3,-9223372036854775808)",
		"[a,8)", "[3,b)", "[a,b)", "[3a,8)", "[3,8a)", "[٣,8)", "[3,٨)", "[３,８)", "［3,8)", "[3，8)", "[\xff,8)", "[3,8)\xff", "\xff", "é[3,8)", "[½,8)", "[nil,8)", "NaN",
		strings.Repeat("[", 32), strings.Repeat("0", 32), "[" + strings.Repeat("0", 27) + "3,8)", "[3," + strings.Repeat("0", 27) + "8)",
	} {
		if got, err := Read(text); got != (Span{}) || err != api.ErrForm {
			t.Errorf("Read(%q) = %v, %v", text, got, err)
		}
	}
}

// CL5: each text a character beside one that is read is another span's, or none.
func TestReadBeside(t *testing.T) {
	for _, s := range []Span{{3, 8}, {0, 1}, {9, 10}, {1073741824, 1074790400}} {
		text := Show(s)
		for i := range len(text) + 1 {
			for _, c := range []string{"", "0", "1", "9", "-", "+", " ", ",", "[", ")", "(", "]", "\x00", "\xff"} {
				checkRead(t, text[:i]+c+text[i:])
				if i < len(text) {
					checkRead(t, text[:i]+c+text[i+1:])
				}
			}
		}
	}
}

// checkRead holds Read against the rule: an answer's text is just what was read, and beside an error there is none; what has digits beside what the form asks for is told by hand.
func checkRead(t *testing.T, text string) {
	t.Helper()
	want, wantErr := plainly(text), error(nil)
	switch {
	case len(text) > 32:
		want, wantErr = Span{}, api.ErrLong
	case want == Span{}:
		wantErr = api.ErrForm
	}
	if got, err := Read(text); got != want || err != wantErr {
		t.Errorf("Read(%q) = %v, %v; want %v, %v", text, got, err, want, wantErr)
	}
}

// plainly is the span of a text, read byte by byte; the zero Span, if it has none.
func plainly(text string) Span {
	var parts [2]int
	part, digits := 0, 0
	if len(text) < 5 || text[0] != '[' || text[len(text)-1] != ')' {
		return Span{}
	}
	for _, c := range []byte(text[1 : len(text)-1]) {
		switch {
		case c == ',' && part == 0 && digits > 0:
			part, digits = 1, 0
		case c >= '0' && c <= '9' && digits < 10 && (digits == 0 || parts[part] > 0):
			parts[part] = 10*parts[part] + int(c-'0')
			digits++
		default:
			return Span{}
		}
	}
	s := Span{parts[0], parts[1]}
	if part == 0 || digits == 0 || !may(s) {
		return Span{}
	}
	return s
}

// CL5: 32 bytes are looked at, bytes and not characters; of more the length is told, whatever they are.
func TestReadOfLong(t *testing.T) {
	for _, c := range []struct {
		text string
		want error
	}{
		{"[3," + strings.Repeat("0", 27) + "8)", api.ErrForm},
		{"[3," + strings.Repeat("0", 28) + "8)", api.ErrLong},
		{"[3,8)" + strings.Repeat(" ", 27), api.ErrForm},
		{"[3,8)" + strings.Repeat(" ", 28), api.ErrLong},
		{strings.Repeat("\x00", 32), api.ErrForm},
		{strings.Repeat("\x00", 33), api.ErrLong},
		{strings.Repeat("é", 16), api.ErrForm},
		{strings.Repeat("é", 17), api.ErrLong},
		{"[1073741824,1074790400)" + strings.Repeat(")", 9), api.ErrForm},
		{"[1073741824,1074790400)" + strings.Repeat(")", 10), api.ErrLong},
		{strings.Repeat("9", 1<<20), api.ErrLong},
	} {
		if got, err := Read(c.text); got != (Span{}) || err != c.want {
			t.Errorf("Read of %d bytes = %v, %v; want %v", len(c.text), got, err, c.want)
		}
	}
}

// CL6: from First on, Next again and again leaves no time out and has none twice; a time is in the span of the number that Which tells, and Left and Edge agree with it.
func TestRowOfSpans(t *testing.T) {
	for _, start := range []int{0, 1, 3, 1000, 1073741724, 1073741824} {
		for _, p := range []int{1, 2, 3, 5, 7, 64, 1048575, 1048576} {
			checkRow(t, start, p)
		}
	}
}

// checkRow goes along a row of spans as far as the time lasts, or so many of them.
func checkRow(t *testing.T, start, p int) {
	t.Helper()
	s, err := First(start, p)
	if err != nil {
		t.Fatal(err)
	}
	for number := range 40 {
		for _, now := range []int{s.Start, s.Start + 1, s.Start + p/2, s.End - 1} {
			if now >= s.End || now > 1073741824 {
				continue
			}
			if got, far, err := Which(start, p, now); got != number || far != now-s.Start || err != nil {
				t.Errorf("Which(%d, %d, %d) = %d, %d, %v; want %d", start, p, now, got, far, err, number)
			}
			if !Has(s, now) || Left(s, now) != p-(now-s.Start) || Edge(s, now) {
				t.Errorf("%v at %d: %v, %d, %v", s, now, Has(s, now), Left(s, now), Edge(s, now))
			}
		}
		next, err := Next(s, p)
		if s.End > 1073741824 {
			if err != api.ErrTime {
				t.Errorf("Next(%v, %d): %v", s, p, err)
			}
			return
		}
		if err != nil || next.Start != s.End || next.End != s.End+p || !Edge(s, next.Start) {
			t.Fatalf("Next(%v, %d) = %v, %v", s, p, next, err)
		}
		if both, ok := Meet(s, next); ok {
			t.Errorf("%v and %v meet: %v", s, next, both)
		}
		s = next
	}
}

// CL6: each time from the start on lies in just one span of the row, and that is the one that Which tells.
func TestEachTimeOnce(t *testing.T) {
	for _, start := range []int{0, 4, 1073741800} {
		for p := 1; p <= 9; p++ {
			row := rowOf(t, start, p, 30)
			for now := start; now <= min(start+29, 1073741824); now++ {
				number, _, err := Which(start, p, now)
				if err != nil {
					t.Fatal(err)
				}
				for i, s := range row {
					if Has(s, now) != (i == number) {
						t.Errorf("start %d, period %d: %d is in the span %d, not just in %d", start, p, now, i, number)
					}
				}
			}
		}
	}
}

// rowOf is so many spans of a row, fewer where the time ends.
func rowOf(t *testing.T, start, p, many int) []Span {
	t.Helper()
	s, err := First(start, p)
	var row []Span
	for len(row) < many && err == nil {
		row = append(row, s)
		s, err = Next(s, p)
	}
	return row
}

// CL6: Count over two stretches that meet is the sum of both; over the whole it is the number that Which tells.
func TestCountAdds(t *testing.T) {
	r := rand.New(rand.NewSource(36))
	for range 20000 {
		p := 1 + r.Intn(1<<(1+r.Intn(20)))
		l := []int{r.Intn(1073741825), r.Intn(1073741825), r.Intn(1073741825)}
		slices.Sort(l)
		start := []int{0, r.Intn(1073741825), l[1], 1073741824}[r.Intn(4)]
		ahead, errA := Count(start, p, l[0], l[1])
		behind, errB := Count(start, p, l[1], l[2])
		whole, errW := Count(start, p, l[0], l[2])
		if errA != nil || errB != nil || errW != nil || ahead+behind != whole {
			t.Fatalf("start %d, period %d, %v: %d and %d, but %d", start, p, l, ahead, behind, whole)
		}
		number, _, err := Which(l[0], p, l[2])
		if got, errC := Count(l[0], p, 0, l[2]); got != number || err != nil || errC != nil {
			t.Fatalf("Count(%d, %d, 0, %d) = %d; Which: %d", l[0], p, l[2], got, number)
		}
	}
}

// CL6: Together is a boundary of both rows as Which and Count tell them, as long as it is a time.
func TestTogetherRows(t *testing.T) {
	r := rand.New(rand.NewSource(66))
	for range 3000 {
		p, q := 1+r.Intn(1<<(1+r.Intn(12))), 1+r.Intn(1<<(1+r.Intn(12)))
		s, at := r.Intn(1<<(1+r.Intn(30))), r.Intn(1<<(1+r.Intn(30)))
		checkTogether(t, s, p, at, q)
		shared, ok, _ := Together(s, p, at, q)
		turned, okTurned, _ := Together(at, q, s, p)
		if shared != turned || ok != okTurned {
			t.Fatalf("Together(%d, %d, %d, %d) = %d, %v; turned round %d, %v", s, p, at, q, shared, ok, turned, okTurned)
		}
		if !ok || shared > 1073741824 {
			continue
		}
		_, farS, errS := Which(s, p, shared)
		_, farT, errT := Which(at, q, shared)
		if farS != 0 || farT != 0 || errS != nil || errT != nil {
			t.Fatalf("Together(%d, %d, %d, %d) = %d: no boundary of both", s, p, at, q, shared)
		}
	}
}

// P7, P8, CL1 to CL6: whatever numbers and whatever text are given, each call answers what the rules say, and the same again.
func FuzzCalls(f *testing.F) {
	f.Add(3, 8, 4, 14, "[3,8)")
	f.Add(0, 1073741824, 1048576, 1073741825, "[03,8)")
	f.Add(math.MinInt, math.MaxInt, -1, 0, "")
	f.Fuzz(func(t *testing.T, a, b, c, d int, text string) {
		for range 2 {
			checkTick(t, a, b)
			checkFirst(t, a, b)
			checkNext(t, Span{a, b}, c)
			checkIn(t, Span{a, b}, c)
			checkMeet(t, Span{a, b}, Span{c, d})
			checkWhich(t, a, b, c)
			checkCount(t, a, b, c, d)
			checkTogetherErr(t, a, b, c, d)
			checkGcd(t, a, b)
			checkHyper(t, []int{a, b, c, d})
			checkRead(t, text)
			if s := (Span{a, b}); Valid(s) != may(s) || may(s) != (Show(s) != "") {
				t.Errorf("%v: %v, %q", s, Valid(s), Show(s))
			}
		}
	})
}
