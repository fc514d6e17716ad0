package trace

import (
	"errors"
	"fmt"
	"math/rand"
	"slices"
	"testing"

	"tithe/api"
	"tithe/fault"
	"tithe/kernel"
)

// markByChance is a mark that may be, mostly, at a Tick or a little behind it.
func markByChance(r *rand.Rand, tick, bad int) api.Mark {
	m := api.Mark{Tick: tick + r.Intn(3), Kind: 1 + r.Intn(9), Node: oneOf(r, goodHandles), Task: oneOf(r, goodHandles), N: oneOf(r, goodTimes)}
	if r.Intn(bad) > 0 {
		return m
	}
	switch r.Intn(6) {
	case 0:
		m.Tick = oneOf(r, badTimes)
	case 1:
		m.Tick = tick - 1
	case 2:
		m.Kind = oneOf(r, badKinds)
	case 3:
		m.Node = oneOf(r, badHandles)
	case 4:
		m.Task = oneOf(r, badHandles)
	default:
		m.N = oneOf(r, badTimes)
	}
	return m
}

// rowByChance is some marks, by rising Ticks, mostly.
func rowByChance(r *rand.Rand, tick int) []api.Mark {
	l := make([]api.Mark, r.Intn(9))
	for place := range l {
		l[place] = markByChance(r, tick, 60)
		tick = max(tick, min(l[place].Tick, tick+3))
	}
	return l
}

// TestRowsByChance: Add and All, held against plain reckoning; what went and what is kept are all.
func TestRowsByChance(t *testing.T) {
	taken, refused := 0, 0
	for seed := range 600 {
		r := rand.New(rand.NewSource(int64(seed)))
		keep := 1 + r.Intn(12)
		x, m := made(t, keep), model{keep: keep}
		for range 60 {
			tick := 0
			if len(m.all) > 0 {
				tick = m.all[len(m.all)-1].Tick
			}
			if r.Intn(20) == 0 {
				tick -= r.Intn(3)
			}
			l := rowByChance(r, tick)
			given := slices.Clone(l)
			before, beforeWent := x.All()
			err := x.Add(l)
			if m.add(l) {
				wantNumber(t, fmt.Sprint(l), err, 0)
				taken++
			} else {
				wantNumber(t, fmt.Sprint(l), err, 1)
				wantKept(t, "what is refused", x, before, beforeWent)
				refused++
			}
			if !slices.Equal(l, given) {
				t.Fatalf("%v is %v now", given, l)
			}
			spoil(l)
			spoil(before)
			wantModel(t, fmt.Sprint("row ", seed), x, &m)
			checkTheorem(t, x, m.all)
		}
	}
	if taken < 5000 || refused < 2000 {
		t.Errorf("%d rows were taken, %d refused", taken, refused)
	}
}

// checkTheorem is TC4: what All tells is the last of what was added; what went and what is kept together are all; Read of Text is the mark.
func checkTheorem(t *testing.T, x *Trace, all []api.Mark) {
	t.Helper()
	l, went := x.All()
	if went+len(l) != len(all) || !slices.Equal(l, all[len(all)-len(l):]) {
		t.Fatalf("%v, and %d went, of %v", l, went, all)
	}
	for _, m := range l {
		if got, err := Read(Text(m)); err != nil || got != m {
			t.Fatalf("%v: %q, read as %v %v", m, Text(m), got, err)
		}
	}
}

// TestAllRowsOfFive: every row of five calls of eight, where few are kept.
func TestAllRowsOfFive(t *testing.T) {
	calls := [][]api.Mark{
		nil, atTicks(0), atTicks(1), atTicks(2), atTicks(1, 1), atTicks(0, 2, 2), atTicks(2, 1), append(atTicks(2), api.Mark{Tick: 2}),
	}
	for number := range 8 * 8 * 8 * 8 * 8 {
		for keep := 1; keep <= 4; keep++ {
			x, m := made(t, keep), model{keep: keep}
			for left := number; left > 0; left /= 8 {
				l := calls[left%8]
				if err := x.Add(l); m.add(l) != (err == nil) {
					t.Fatalf("row %o, keep %d: %v: %v", number, keep, l, err)
				}
			}
			wantModel(t, fmt.Sprintf("row %o, keep %d", number, keep), x, &m)
		}
	}
}

// kernelByChance is a kernel with work, a new one, or one near its end.
func kernelByChance(t *testing.T, r *rand.Rand) *kernel.Kernel {
	switch r.Intn(4) {
	case 0:
		return kernel.New()
	case 1:
		return late(t, mostTicks-r.Intn(60))
	}
	k, _ := worked(t)
	return k
}

// TestRunsByChance: Run, Add and All of traces and kernels, a kernel's operations between, held against plain reckoning.
func TestRunsByChance(t *testing.T) {
	ends := map[int]int{}
	for seed := range 300 {
		r := rand.New(rand.NewSource(int64(seed)))
		keep := 1 + r.Intn(30)
		x, m := made(t, keep), model{keep: keep}
		k := kernelByChance(t, r)
		other := k.Clone()
		for range 30 {
			switch r.Intn(8) {
			case 0:
				l := rowByChance(r, k.Now())
				if err := x.Add(l); m.add(l) != (err == nil) {
					t.Fatalf("%d: %v: %v", seed, l, err)
				}
			case 1:
				operate(r, k, other)
			default:
				n := r.Intn(12)
				if r.Intn(20) == 0 {
					n = oneOf(r, []int{-1, mostBurst + 1, 200})
				}
				went, err := x.Run(k, n)
				expected, why := m.run(other, n)
				if went != expected || fault.Why(err) != fault.Why(why) || (err == nil) != (why == nil) {
					t.Fatalf("%d: Run %d: %d %v, not %d %v", seed, n, went, err, expected, why)
				}
				ends[int(fault.Why(err))]++
			}
			wantModel(t, fmt.Sprint("row ", seed), x, &m)
			checkOf(t, x, k)
		}
		if stateOf(k) != stateOf(other) {
			t.Fatalf("%d: the kernel is %s, not %s", seed, stateOf(k), stateOf(other))
		}
	}
	for number, least := range map[int]int{0: 2000, 1: 50, 2: 200, 60: 200} {
		if ends[number] < least {
			t.Errorf("%d came %d times only", number, ends[number])
		}
	}
}

// operate does the same by chance to two kernels that are alike.
func operate(r *rand.Rand, kernels ...*kernel.Kernel) {
	h := oneOf(r, kernels[0].All())
	what, q, p := r.Intn(4), 1+r.Intn(3), 3+r.Intn(9)
	for _, k := range kernels {
		reserve := api.Reserve{Q: q, P: p}
		switch what {
		case 0:
			k.Create(h, reserve)
		case 1:
			k.Resize(h, reserve)
		case 2:
			k.Delete(h)
		default:
			if task, err := k.Task(h, q); err == nil {
				k.Job(h, task, api.Job{Length: p, Cap: q - 1, Due: p})
			}
		}
	}
}

// checkOf holds Of and Periods of what is kept against plain reckoning, for each node that is there, and for some handles.
func checkOf(t *testing.T, x *Trace, k *kernel.Kernel) {
	t.Helper()
	l, _ := x.All()
	together := 0
	nodes := map[api.Handle]bool{}
	for _, m := range l {
		nodes[m.Node] = true
	}
	for _, h := range append(k.All(), 0, -1, slackAt(0, 1)) {
		nodes[h] = true
	}
	for node := range nodes {
		var marks []api.Mark
		var periods []int
		for _, m := range l {
			if m.Node == node && m.Kind == end {
				periods = append(periods, m.N)
			}
			if m.Node == node {
				marks = append(marks, m)
			}
		}
		of := Of(l, node)
		if got := Periods(l, node); !slices.Equal(of, marks) || !slices.Equal(got, periods) {
			t.Fatalf("of %d: %v, %v, not %v, %v", node, of, got, marks, periods)
		}
		if !slices.Equal(Periods(of, node), periods) || !slices.Equal(Of(of, node), of) {
			t.Fatalf("of %d again: %v", node, of)
		}
		together += len(of)
	}
	// Each mark is of one node alone.
	if together != len(l) {
		t.Fatalf("%d of %d marks", together, len(l))
	}
}

// TestPeriodsAreBudgets: what Periods tells of a kernel's marks is the budget that was in force.
func TestPeriodsAreBudgets(t *testing.T) {
	k, nodes := worked(t)
	x := made(t, mostKept)
	if n, err := x.Run(k, 400); n != 400 || err != nil {
		t.Fatal(n, err)
	}
	l, went := x.All()
	if went != 0 {
		t.Fatalf("%d went", went)
	}
	// Of the node that is resized from 1/4 to 1/5 a budget of 1; of the one below it that is deleted one period; of d 2 of each 3 ticks of a's clock.
	for place, q := range map[int]int{1: 1, 2: 1, 3: 1, 4: 2, 5: 1} {
		got := Periods(l, nodes[place])
		if len(got) == 0 || slices.ContainsFunc(got, func(n int) bool { return n != q }) {
			t.Errorf("the periods of the node %d: %v, not of %d", place, got, q)
		}
	}
	for place, many := range map[int]int{0: 0, 1: 200, 2: 1 + 396/5, 3: 1, 4: 66} {
		if got := Periods(l, nodes[place]); len(got) != many {
			t.Errorf("the node %d has %d periods, not %d", place, len(got), many)
		}
	}
}

// letters are bytes of which texts of marks are made, and some others.
const letters = "0123456789 -.ntsgivendlfrswitchougcqk#+\t\nx\x00\xff"

// TestReadByChance: texts that are told, and such with some bytes changed, held against the test's own reading.
func TestReadByChance(t *testing.T) {
	r := rand.New(rand.NewSource(19))
	is, no := 0, 0
	for range 100000 {
		m := markByChance(r, oneOf(r, goodTimes), 1<<30)
		if r.Intn(2) == 0 {
			m.Tick, m.N = r.Intn(mostTicks+1), r.Intn(120)
		}
		text := []byte(textOf(m))
		for range r.Intn(4) {
			if len(text) == 0 {
				break
			}
			place := r.Intn(len(text))
			switch r.Intn(3) {
			case 0:
				text[place] = letters[r.Intn(len(letters))]
			case 1:
				text = slices.Insert(text, place, letters[r.Intn(len(letters))])
			default:
				text = slices.Delete(text, place, place+1)
			}
		}
		got, err := Read(string(text))
		expected, there := read(string(text))
		if got != expected || there && err != nil || !there && !errors.Is(err, api.ErrForm) {
			t.Fatalf("%q: %v %v, not %v %v", text, got, err, expected, there)
		}
		if there {
			is++
			if Text(got) != string(text) {
				t.Fatalf("%q is read, and told as %q", text, Text(got))
			}
		} else {
			no++
		}
	}
	if is < 20000 || no < 20000 {
		t.Errorf("%d were read, %d refused", is, no)
	}
}

// TestTextsByChance: marks that may be and that may not, held against the test's own texts; unlike marks have unlike texts.
func TestTextsByChance(t *testing.T) {
	r := rand.New(rand.NewSource(4))
	texts := map[string]api.Mark{}
	for range 50000 {
		m := markByChance(r, r.Intn(40), 6)
		text := Text(m)
		if text != textOf(m) {
			t.Fatalf("%v: %q, not %q", m, text, textOf(m))
		}
		if text == "" {
			continue
		}
		if other, there := texts[text]; there && other != m {
			t.Fatalf("%v and %v are both %q", m, other, text)
		}
		texts[text] = m
	}
}

// TestAlone: what is answered hangs on what was given, and on what was done to that trace, alone.
func TestAlone(t *testing.T) {
	k, nodes := worked(t)
	l := ticked(t, k.Clone(), 50)
	for range 3 {
		other := made(t, 2)
		add(t, other, mark(mostTicks))
		Read("3 done n1.1 t0.1 2")
		x, apart := made(t, 7), k.Clone()
		if n, err := x.Run(apart, 50); n != 50 || err != nil {
			t.Fatal(n, err)
		}
		wantKept(t, "Run", x, l[len(l)-7:], len(l)-7)
		if got := Of(l, nodes[1]); !slices.Equal(got, Of(l, nodes[1])) || len(got) == 0 {
			t.Errorf("Of: %v", got)
		}
	}
}
