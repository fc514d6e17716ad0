package fixed

import (
	"math"
	"math/big"
	"slices"
	"strconv"
	"strings"
	"testing"

	"tithe/api"
)

// edges are numbers that a reservation's fields are tried with, wrong ones among them.
var edges = []int{
	math.MinInt, math.MinInt + 1, -api.MaxPeriod, -2, -1, 0, 1, 2, 3, 5, 7,
	api.MaxPeriod - 1, api.MaxPeriod, api.MaxPeriod + 1, 1 << 32, 1 << 44, math.MaxInt - 1, math.MaxInt,
}

// reserves are reservations that may be: all of the short periods, and samples up to the longest.
func reserves() []api.Reserve {
	var l []api.Reserve
	for p := 1; p <= 12; p++ {
		for q := 1; q <= p; q++ {
			l = append(l, api.Reserve{Q: q, P: p})
		}
	}
	for _, p := range []int{97, 1000, 1023, 1024, 1025, 333333, 999983, 1000000, api.MaxPeriod - 1, api.MaxPeriod} {
		for _, q := range []int{1, 2, 3, p / 3, p/3 + 1, p / 2, p/2 + 1, p - 2, p - 1, p} {
			l = append(l, api.Reserve{Q: q, P: p})
		}
	}
	return l
}

// wrongReserves are reservations that may not be.
func wrongReserves() []api.Reserve {
	var l []api.Reserve
	for _, q := range edges {
		for _, p := range edges {
			if q < 1 || p > api.MaxPeriod || q > p {
				l = append(l, api.Reserve{Q: q, P: p})
			}
		}
	}
	return l
}

// share is a share that must be there.
func share(t *testing.T, r api.Reserve) int {
	t.Helper()
	n, err := Share(r)
	if err != nil {
		t.Fatalf("Share(%v): %v", r, err)
	}
	return n
}

// FX1: a reservation may be just where 1 <= Q <= P <= MaxPeriod.
func TestValid(t *testing.T) {
	for _, r := range reserves() {
		if err := Valid(r); err != nil {
			t.Errorf("Valid(%v) = %v", r, err)
		}
	}
	for _, r := range wrongReserves() {
		if err := Valid(r); err != api.ErrRange {
			t.Errorf("Valid(%v) = %v", r, err)
		}
	}
}

// FX1: shares that are told, whole ones and rounded ones.
func TestShare(t *testing.T) {
	for _, c := range []struct {
		r    api.Reserve
		want int
	}{
		{api.Reserve{Q: 1, P: 1}, api.Unit},
		{api.Reserve{Q: 1, P: 2}, 524288},
		{api.Reserve{Q: 1, P: 3}, 349526},
		{api.Reserve{Q: 2, P: 3}, 699051},
		{api.Reserve{Q: 3, P: 3}, api.Unit},
		{api.Reserve{Q: 1, P: 1000000}, 2},
		{api.Reserve{Q: 1, P: api.MaxPeriod - 1}, 2},
		{api.Reserve{Q: 1, P: api.MaxPeriod}, 1},
		{api.Reserve{Q: api.MaxPeriod - 1, P: api.MaxPeriod}, api.Unit - 1},
		{api.Reserve{Q: api.MaxPeriod - 2, P: api.MaxPeriod - 1}, api.Unit - 1},
		{api.Reserve{Q: api.MaxPeriod, P: api.MaxPeriod}, api.Unit},
	} {
		if got, err := Share(c.r); got != c.want || err != nil {
			t.Errorf("Share(%v) = %d, %v; want %d", c.r, got, err, c.want)
		}
	}
	for _, r := range wrongReserves() {
		if got, err := Share(r); got != 0 || err != api.ErrRange {
			t.Errorf("Share(%v) = %d, %v", r, got, err)
		}
	}
}

// FX2: sums up to the greatest int; a number below 0 is told ahead of a sum that is too great, wherever it stands.
func TestSum(t *testing.T) {
	const most = math.MaxInt
	for _, c := range []struct {
		l    []int
		want int
		err  error
	}{
		{nil, 0, nil},
		{[]int{}, 0, nil},
		{[]int{0}, 0, nil},
		{[]int{7}, 7, nil},
		{[]int{1, 2, 3, 0, 4}, 10, nil},
		{[]int{most}, most, nil},
		{[]int{most, 0}, most, nil},
		{[]int{0, most, 0}, most, nil},
		{[]int{most - 1, 1}, most, nil},
		{[]int{1, most - 1}, most, nil},
		{[]int{most/2 + 1, most / 2}, most, nil},
		{[]int{most, 1}, 0, api.ErrOverflow},
		{[]int{1, most}, 0, api.ErrOverflow},
		{[]int{most, most}, 0, api.ErrOverflow},
		{[]int{most, most, 2}, 0, api.ErrOverflow},
		{[]int{most/2 + 1, most/2 + 1}, 0, api.ErrOverflow},
		{[]int{-1}, 0, api.ErrArg},
		{[]int{5, -1, 5}, 0, api.ErrArg},
		{[]int{1, math.MinInt}, 0, api.ErrArg},
		{[]int{most, -1}, 0, api.ErrArg},
		{[]int{most, most, -1}, 0, api.ErrArg},
		{[]int{-1, most, most}, 0, api.ErrArg},
	} {
		if got, err := Sum(c.l); got != c.want || err != c.err {
			t.Errorf("Sum(%v) = %d, %v; want %d, %v", c.l, got, err, c.want, c.err)
		}
	}
}

// FX2: what fits is told exactly, where the sum is above the greatest int too.
func TestFits(t *testing.T) {
	const most = math.MaxInt
	for _, c := range []struct {
		l    []int
		more int
		want bool
		err  error
	}{
		{nil, 0, true, nil},
		{nil, api.Unit, true, nil},
		{nil, api.Unit + 1, false, nil},
		{[]int{}, 1, true, nil},
		{[]int{api.Unit}, 0, true, nil},
		{[]int{api.Unit}, 1, false, nil},
		{[]int{api.Unit + 1}, 0, false, nil},
		{[]int{1048575}, 1, true, nil},
		{[]int{1048575}, 2, false, nil},
		{[]int{524288, 262144}, 262144, true, nil},
		{[]int{524288, 262144}, 262145, false, nil},
		{[]int{349526, 349526}, 349526, false, nil},
		{[]int{0, api.Unit, 0}, 0, true, nil},
		{[]int{most}, 0, false, nil},
		{[]int{most}, most, false, nil},
		{[]int{most, 1}, 0, false, nil},
		{[]int{most, most}, 2, false, nil},
		{[]int{most, 1}, most, false, nil},
		{nil, -1, false, api.ErrArg},
		{nil, math.MinInt, false, api.ErrArg},
		{[]int{1}, -1, false, api.ErrArg},
		{[]int{-1}, 1, false, api.ErrArg},
		{[]int{math.MinInt}, 0, false, api.ErrArg},
		{[]int{api.Unit, 1, -1}, 1, false, api.ErrArg},
		{[]int{-5}, api.Unit + 5, false, api.ErrArg},
		{[]int{most}, -most, false, api.ErrArg},
	} {
		if got, err := Fits(c.l, c.more); got != c.want || err != c.err {
			t.Errorf("Fits(%v, %d) = %v, %v; want %v, %v", c.l, c.more, got, err, c.want, c.err)
		}
	}
}

// P8 for Sum and Fits: a list is not changed, nor what lies behind it.
func TestListsStay(t *testing.T) {
	whole := []int{1, 2, 3, 4}
	for n := range whole {
		if _, err := Sum(whole[:n]); err != nil {
			t.Errorf("Sum of %d: %v", n, err)
		}
		if _, err := Fits(whole[:n], 99); err != nil {
			t.Errorf("Fits of %d: %v", n, err)
		}
	}
	if !slices.Equal(whole, []int{1, 2, 3, 4}) {
		t.Errorf("changed to %v", whole)
	}
}

// FX3: the greatest budgets that are told; units are looked at ahead of the period.
func TestMost(t *testing.T) {
	for _, c := range []struct {
		units, p, want int
		err            error
	}{
		{349525, 3, 0, nil},
		{349526, 3, 1, nil},
		{0, 1, 0, nil},
		{0, api.MaxPeriod, 0, nil},
		{1, 1, 0, nil},
		{api.Unit - 1, 1, 0, nil},
		{api.Unit, 1, 1, nil},
		{1, api.MaxPeriod - 1, 0, nil},
		{1, api.MaxPeriod, 1, nil},
		{api.Unit - 1, api.MaxPeriod, api.MaxPeriod - 1, nil},
		{api.Unit, api.MaxPeriod, api.MaxPeriod, nil},
		{api.Unit, api.MaxPeriod - 1, api.MaxPeriod - 1, nil},
		{-1, 3, 0, api.ErrArg},
		{math.MinInt, 3, 0, api.ErrArg},
		{api.Unit + 1, 3, 0, api.ErrArg},
		{math.MaxInt, 3, 0, api.ErrArg},
		{0, 0, 0, api.ErrRange},
		{api.Unit, -1, 0, api.ErrRange},
		{1, math.MinInt, 0, api.ErrRange},
		{1, api.MaxPeriod + 1, 0, api.ErrRange},
		{1, math.MaxInt, 0, api.ErrRange},
		{-1, 0, 0, api.ErrArg},
		{api.Unit + 1, api.MaxPeriod + 1, 0, api.ErrArg},
	} {
		if got, err := Most(c.units, c.p); got != c.want || err != c.err {
			t.Errorf("Most(%d, %d) = %d, %v; want %d, %v", c.units, c.p, got, err, c.want, c.err)
		}
	}
}

// FX3: beside each share, and one unit around it, Most is the budget whose share still is at most that, and the next one's is not.
func TestMostIsGreatest(t *testing.T) {
	for _, r := range reserves() {
		for _, by := range []int{-1, 0, 1} {
			units := share(t, r) + by
			if units > api.Unit {
				continue
			}
			q, err := Most(units, r.P)
			if err != nil || q < 0 || q > r.P {
				t.Fatalf("Most(%d, %d) = %d, %v", units, r.P, q, err)
			}
			if q > 0 && share(t, api.Reserve{Q: q, P: r.P}) > units {
				t.Errorf("Most(%d, %d) = %d: too much", units, r.P, q)
			}
			if q < r.P && share(t, api.Reserve{Q: q + 1, P: r.P}) <= units {
				t.Errorf("Most(%d, %d) = %d: not the greatest", units, r.P, q)
			}
		}
	}
}

// FX3: comparisons that are told, such of equal shares in units too.
func TestCompare(t *testing.T) {
	for _, c := range []struct {
		a, b api.Reserve
		want int
	}{
		{api.Reserve{Q: 1, P: 3}, api.Reserve{Q: 333333, P: 1000000}, 1},
		{api.Reserve{Q: 333333, P: 1000000}, api.Reserve{Q: 1, P: 3}, -1},
		{api.Reserve{Q: 1, P: 2}, api.Reserve{Q: api.MaxPeriod / 2, P: api.MaxPeriod}, 0},
		{api.Reserve{Q: 1, P: 1}, api.Reserve{Q: api.MaxPeriod, P: api.MaxPeriod}, 0},
		{api.Reserve{Q: 1, P: api.MaxPeriod}, api.Reserve{Q: 1, P: api.MaxPeriod - 1}, -1},
		{api.Reserve{Q: api.MaxPeriod - 1, P: api.MaxPeriod}, api.Reserve{Q: api.MaxPeriod - 2, P: api.MaxPeriod - 1}, 1},
	} {
		if got, err := Compare(c.a, c.b); got != c.want || err != nil {
			t.Errorf("Compare(%v, %v) = %d, %v; want %d", c.a, c.b, got, err, c.want)
		}
	}
	fine := api.Reserve{Q: 1, P: 2}
	for _, r := range wrongReserves() {
		for _, pair := range [][2]api.Reserve{{r, fine}, {fine, r}, {r, r}} {
			if got, err := Compare(pair[0], pair[1]); got != 0 || err != api.ErrRange {
				t.Errorf("Compare(%v, %v) = %d, %v", pair[0], pair[1], got, err)
			}
		}
	}
}

// FX4: texts of units, and of what can't be units.
func TestText(t *testing.T) {
	for units, want := range map[int]string{
		0:            "0",
		1:            "0.00000095367431640625",
		2:            "0.0000019073486328125",
		262144:       "0.25",
		524288:       "0.5",
		api.Unit - 1: "0.99999904632568359375",
		api.Unit:     "1",
	} {
		if got, err := Text(units); got != want || err != nil {
			t.Errorf("Text(%d) = %q, %v; want %q", units, got, err, want)
		}
	}
	for _, units := range []int{math.MinInt, -api.Unit, -1, api.Unit + 1, 2 * api.Unit, math.MaxInt} {
		if got, err := Text(units); got != "" || err != api.ErrArg {
			t.Errorf("Text(%d) = %q, %v", units, got, err)
		}
	}
}

// FX4: each text has all its digits and none too many. A float of 53 bits holds units exactly, and they have 20 digits at most.
func TestTextOfAll(t *testing.T) {
	for units := 0; units <= api.Unit; units++ {
		want := strconv.FormatFloat(float64(units)/api.Unit, 'f', 20, 64)
		want = strings.TrimSuffix(strings.TrimRight(want, "0"), ".")
		if got, err := Text(units); got != want || err != nil {
			t.Fatalf("Text(%d) = %q, %v; want %q", units, got, err, want)
		}
	}
}

// FX4: what Text tells is read back.
func TestReadOfText(t *testing.T) {
	check := func(units int) {
		s, err := Text(units)
		if err != nil {
			t.Fatalf("Text(%d): %v", units, err)
		}
		if got, err := Read(s); got != units || err != nil {
			t.Fatalf("Read(%q) = %d, %v; want %d", s, got, err, units)
		}
	}
	for units := 0; units <= api.Unit; units += 11 {
		check(units)
	}
	for n := range 64 {
		check(n)
		check(api.Unit - n)
	}
	for n := range 21 {
		check(1 << n)
	}
}

// FX4: a text that no units have is none.
func TestReadOfNone(t *testing.T) {
	for _, s := range []string{
		"", " ", ".", "-", "+", "a", "00", "01", "000", "2", "10", "0.", "1.", "0.0", "1.0", "1.5", "0..5", ".5", "00.5",
		"0.50", "0.500", "0,5", "+0.5", "-0", "-0.5", "-1", " 0.5", "0.5 ", "0.5\n", "0.5\x00", "0. 5", "5e-1", "0x1", "0_0",
		"0.1", "0.3", "0.9", "0.99999", "0.4", "0.49", "0.51", "1.00000095367431640625",
		"0.00000095367431640624", "0.00000095367431640626", "0.000000953674316406250", "0.0000009536743164062", "0.00000095367431640625x",
		"0.99999904632568359374", "0.999999046325683593750", "0.99999999999999999999",
		"٠", "٠.٥", "０.５", "\xff", "0.\xff", "½", "NaN", "Inf",
		strings.Repeat("0", 1000), "0." + strings.Repeat("0", 1000), "0.5" + strings.Repeat("0", 1000), strings.Repeat("9", 1000),
	} {
		if got, err := Read(s); got != 0 || err != api.ErrForm {
			t.Errorf("Read(%q) = %d, %v", s, got, err)
		}
	}
}

// FX5: units are at least the exact part, and less than one unit above it.
func TestShareIsLeast(t *testing.T) {
	for _, r := range reserves() {
		exact := big.NewRat(int64(r.Q)*api.Unit, int64(r.P))
		units := share(t, r)
		if big.NewRat(int64(units), 1).Cmp(exact) < 0 {
			t.Errorf("Share(%v) = %d: below the exact part", r, units)
		}
		if big.NewRat(int64(units)-1, 1).Cmp(exact) >= 0 {
			t.Errorf("Share(%v) = %d: a unit too much", r, units)
		}
	}
}

// FX5: Compare says what exact fractions say, and a reservation below another one has no share above that one's.
func TestCompareIsExact(t *testing.T) {
	l := reserves()
	for _, a := range l {
		for _, b := range l {
			got, err := Compare(a, b)
			want := big.NewRat(int64(a.Q), int64(a.P)).Cmp(big.NewRat(int64(b.Q), int64(b.P)))
			if got != want || err != nil {
				t.Fatalf("Compare(%v, %v) = %d, %v; want %d", a, b, got, err, want)
			}
			if got == -1 && share(t, a) > share(t, b) {
				t.Errorf("%v is below %v, but its share is above", a, b)
			}
		}
	}
}

// FX5: a reservation's share is enough for its budget.
func TestMostOfShare(t *testing.T) {
	for _, r := range reserves() {
		if q, err := Most(share(t, r), r.P); q < r.Q || err != nil {
			t.Errorf("Most of the share of %v = %d, %v", r, q, err)
		}
	}
}
