package ops

import (
	"fmt"
	"math/rand"
	"reflect"
	"slices"
	"testing"

	"tithe/api"
	"tithe/kernel"
)

// oneOf is one of a list, by chance.
func oneOf[T any](r *rand.Rand, l []T) T { return l[r.Intn(len(l))] }

// handleByChance is a node of a kernel, mostly; or 0, or any handle.
func handleByChance(r *rand.Rand, k *kernel.Kernel) api.Handle {
	switch n := r.Intn(20); {
	case n < 15:
		return oneOf(r, k.All())
	case n < 18:
		return 0
	case n < 19:
		return nodeAt(r.Intn(8), 1+r.Intn(3))
	}
	return oneOf(r, someHandles)
}

// taskByChance is a task of a node, or of 0, mostly; or any handle.
func taskByChance(r *rand.Rand, k *kernel.Kernel, at api.Handle) api.Handle {
	l := k.Slack()
	if at != 0 {
		n, _ := k.Node(at)
		l = n.Tasks
	}
	switch n := r.Intn(10); {
	case n < 8 && len(l) > 0:
		return oneOf(r, l)
	case n < 9:
		return taskAt(r.Intn(3), 1+r.Intn(3))
	}
	return oneOf(r, someHandles)
}

// numberByChance is a small number, mostly; or any.
func numberByChance(r *rand.Rand, least, most int) int {
	if r.Intn(30) == 0 {
		return oneOf(r, ints)
	}
	return least + r.Intn(most-least+1)
}

// opByChance is an operation that can be done, mostly, with or without something in fields that are not its own.
func opByChance(r *rand.Rand, k *kernel.Kernel) api.Op {
	at := handleByChance(r, k)
	o := api.Op{
		Kind: 1 + r.Intn(9), At: at, Task: taskByChance(r, k, at),
		Reserve: api.Reserve{Q: numberByChance(r, 1, 3), P: numberByChance(r, 3, 12)},
		Job:     api.Job{Length: numberByChance(r, 1, 6), Cap: numberByChance(r, 0, 3), At: numberByChance(r, -1, 9), Due: numberByChance(r, 0, 9)},
		N:       numberByChance(r, 0, 31),
	}
	if r.Intn(40) == 0 {
		o.Kind = oneOf(r, noKinds)
	}
	// Nodes and their work are made more often than they go.
	if o.Kind == remove && r.Intn(3) > 0 {
		o.Kind = create
	}
	if o.Kind == untask && r.Intn(3) > 0 {
		o.Kind = addTask
	}
	if r.Intn(2) == 0 {
		return cleaned(o)
	}
	return o
}

// TestRowsByChance: what is answered, and what is done, held against the kernel's own calls; and OP5.
func TestRowsByChance(t *testing.T) {
	kinds, failed := make([]int, 10), map[int]int{}
	for seed := range 150 {
		r := rand.New(rand.NewSource(int64(seed)))
		k, direct, clean := kernel.New(), kernel.New(), kernel.New()
		var row []api.Op
		var answers []api.Answer
		for range 60 {
			o := opByChance(r, k)
			before := stateOf(k)
			got := Apply(k, o)
			if expected := called(direct, o); !alike(got, expected) {
				t.Fatalf("%d: %v: %v, not %v", seed, o, got, expected)
			}
			// An operation and its Clean do the same.
			if other := Apply(clean, Clean(o)); !Same(got, other) || !alike(got, other) {
				t.Fatalf("%d: %v: %v, its Clean %v", seed, o, got, other)
			}
			after := stateOf(k)
			if after != stateOf(direct) || after != stateOf(clean) {
				t.Fatalf("%d: %v: the kernels are unlike", seed, o)
			}
			// What answers an error, and what asks, changes nothing. (No ticks are beyond MaxTicks here.)
			if (got.Err != 0 || o.Kind == node || o.Kind == show) && after != before {
				t.Fatalf("%d: %v: %v, and %s is %s", seed, o, got, before, after)
			}
			checkWords(t, o, got)
			row, answers = append(row, o), append(answers, got)
			failed[got.Err]++
			if got.Err == 0 {
				kinds[o.Kind]++
			}
		}
		checkRow(t, r, row, answers, stateOf(k))
	}
	for kind := create; kind <= show; kind++ {
		if kinds[kind] < 50 {
			t.Errorf("%s was done %d times only", kindNames[kind], kinds[kind])
		}
	}
	for _, number := range []int{0, 1, 2, 20, 80, 91, 92} {
		if failed[number] < 20 {
			t.Errorf("the error %d came %d times only", number, failed[number])
		}
	}
}

// checkWords holds an operation's texts, and its answer's, against the test's own.
func checkWords(t *testing.T, o api.Op, a api.Answer) {
	t.Helper()
	text := Text(o)
	if text != textOf(o) {
		t.Fatalf("%v: %q, not %q", o, text, textOf(o))
	}
	if isOne(o.Kind) {
		if got, err := Read(text); err != nil || got != Clean(o) || got != cleaned(o) {
			t.Fatalf("Read of %q: %v %v", text, got, err)
		}
	}
	if got := Tell(o, a); got != tell(o, a) {
		t.Fatalf("%q: %q, not %q", text, got, tell(o, a))
	}
	if number := valid(o); number == 0 && Valid(o) != nil || number != 0 && Valid(o) != api.Errno(number) {
		t.Fatalf("Valid of %v: %v", o, Valid(o))
	}
	if TaskLevel(o) != slices.Contains([]int{addTask, untask, addJob}, o.Kind) {
		t.Fatalf("TaskLevel of %v: %v", o, TaskLevel(o))
	}
}

// checkRow: All of a row is each one's Apply; All of two rows, one behind the other, is All of both together.
func checkRow(t *testing.T, r *rand.Rand, row []api.Op, answers []api.Answer, state string) {
	t.Helper()
	kept := slices.Clone(row)
	k := kernel.New()
	all, err := All(k, row)
	if err != nil || !slices.EqualFunc(all, answers, alike) || stateOf(k) != state {
		t.Fatalf("All of %v: %v %v, not %v", row, all, err, answers)
	}
	for _, cut := range []int{0, r.Intn(len(row) + 1), len(row)} {
		k := kernel.New()
		first, err := All(k, row[:cut])
		if err != nil {
			t.Fatal(err)
		}
		second, err := All(k, row[cut:])
		if err != nil {
			t.Fatal(err)
		}
		if both := append(first, second...); !slices.EqualFunc(both, all, Same) || stateOf(k) != state {
			t.Fatalf("%v, cut at %d: %v, not %v", row, cut, both, all)
		}
	}
	if !slices.Equal(row, kept) {
		t.Fatalf("the row %v is %v now", kept, row)
	}
}

// TestRowsAtTheEnd: rows of ticks near MaxTicks, of which some are done in part.
func TestRowsAtTheEnd(t *testing.T) {
	for seed := range 100 {
		r := rand.New(rand.NewSource(int64(seed)))
		room := r.Intn(40)
		k, direct := late(t, mostTicks-room), late(t, mostTicks-room)
		for range 20 {
			o := opByChance(r, k)
			if r.Intn(2) == 0 {
				o = api.Op{Kind: ticks, N: r.Intn(12)}
			}
			if got, expected := Apply(k, o), called(direct, o); !alike(got, expected) || stateOf(k) != stateOf(direct) {
				t.Fatalf("%d: %v at %d: %v, not %v", seed, o, k.Now(), got, expected)
			}
		}
	}
}

// letters are bytes of which texts of operations are made, and some others.
const letters = "0123456789 -#/.nstcreatedelitaskuntjobhow+\t\nx\x00\xff"

// TestReadByChance: texts that are told, and such with some bytes changed, held against the test's own reading.
func TestReadByChance(t *testing.T) {
	r := rand.New(rand.NewSource(18))
	read0, refused := 0, 0
	for range 60000 {
		o := filled(1 + r.Intn(9))
		o.At, o.Task = oneOf(r, someHandles), oneOf(r, someHandles)
		for _, field := range []*int{&o.N, &o.Reserve.Q, &o.Reserve.P, &o.Job.Length, &o.Job.Cap, &o.Job.Due} {
			*field = numberByChance(r, -12, 120)
		}
		text := []byte(textOf(o))
		for range r.Intn(4) {
			place := r.Intn(len(text))
			switch r.Intn(3) {
			case 0:
				text[place] = letters[r.Intn(len(letters))]
			case 1:
				text = slices.Insert(text, place, letters[r.Intn(len(letters))])
			default:
				text = slices.Delete(text, place, place+1)
			}
		}
		got, err := Read(string(text))
		expected, number := read(string(text))
		if got != expected || number == 0 && err != nil || number != 0 && err != api.Errno(number) {
			t.Fatalf("%q: %v %v, not %v %d", text, got, err, expected, number)
		}
		if number == 0 {
			read0++
			if Text(got) != string(text) {
				t.Fatalf("%q is read, and told as %q", text, Text(got))
			}
		} else {
			refused++
		}
	}
	if read0 < 5000 || refused < 5000 {
		t.Errorf("%d were read, %d refused", read0, refused)
	}
}

// TestTellByChance: answers of any numbers, told as each kind, held against the test's own telling; and Same of two that are mostly alike.
func TestTellByChance(t *testing.T) {
	r := rand.New(rand.NewSource(19))
	for range 20000 {
		a := answerByChance(r)
		o := api.Op{Kind: r.Intn(11)}
		// What is none that may be is told by task.Show as nothing: that is held elsewhere.
		if o.Kind != show || a.Err != 0 {
			if got := Tell(o, a); got != tell(o, a) {
				t.Fatalf("%v, %v: %q, not %q", o, a, got, tell(o, a))
			}
		}
		b := copied(a)
		for range r.Intn(3) {
			change(r, &b)
		}
		if Same(a, b) != alike(a, b) || Same(b, a) != alike(a, b) || !Same(a, a) {
			t.Fatalf("Same of %v, %v: not %v", a, b, alike(a, b))
		}
	}
}

// answerByChance is an answer with small numbers, or any.
func answerByChance(r *rand.Rand) api.Answer {
	a := full()
	a.Node.Kids, a.Node.Tasks = make([]api.Handle, r.Intn(4)), make([]api.Handle, r.Intn(4))
	a.Task.Jobs = make([]api.Job, r.Intn(4))
	for _, leaf := range leaves(reflect.ValueOf(&a).Elem()) {
		switch leaf.Kind() {
		case reflect.Bool:
			leaf.SetBool(r.Intn(2) == 0)
		default:
			leaf.SetInt(int64(numberByChance(r, -1, 3)))
		}
	}
	for _, l := range [][]api.Handle{a.Node.Kids, a.Node.Tasks, {0}} {
		for i := range l {
			l[i] = oneOf(r, someHandles)
		}
	}
	a.Handle, a.Node.Parent = oneOf(r, someHandles), oneOf(r, someHandles)
	if r.Intn(2) == 0 {
		a.Err = 0
	}
	if r.Intn(3) == 0 {
		a.Node.Now = api.Reserve{}
	}
	if r.Intn(3) == 0 {
		a.Node.Next = api.Reserve{}
	}
	return a
}

// copied is an answer with lists of its own.
func copied(a api.Answer) api.Answer {
	a.Node.Kids = append([]api.Handle{}, a.Node.Kids...)
	a.Node.Tasks = append([]api.Handle{}, a.Node.Tasks...)
	a.Task.Jobs = append([]api.Job{}, a.Task.Jobs...)
	return a
}

// change lays another number, or truth, somewhere into an answer, or makes a list longer or shorter.
func change(r *rand.Rand, a *api.Answer) {
	switch r.Intn(8) {
	case 0:
		a.Node.Kids = append(a.Node.Kids, 0)
	case 1:
		a.Node.Tasks = append(a.Node.Tasks, 0)
	case 2:
		a.Task.Jobs = append(a.Task.Jobs, api.Job{})
	case 3:
		a.Node.Kids, a.Node.Tasks, a.Task.Jobs = a.Node.Kids[:len(a.Node.Kids)/2], a.Node.Tasks[:len(a.Node.Tasks)/2], nil
	default:
		switch leaf := oneOf(r, leaves(reflect.ValueOf(a).Elem())); leaf.Kind() {
		case reflect.Bool:
			leaf.SetBool(!leaf.Bool())
		default:
			leaf.SetInt(leaf.Int() ^ int64(r.Intn(2)))
		}
	}
}

// TestAlone: what is answered hangs on the kernel and on the operation alone.
func TestAlone(t *testing.T) {
	x := rich(t)
	for kind := create; kind <= show; kind++ {
		o := x.fine[kind]
		first := Apply(x.k.Clone(), o)
		for range 3 {
			Apply(kernel.New(), filled(kind))
			Read(fmt.Sprint(kind))
			if again := Apply(x.k.Clone(), o); !alike(first, again) {
				t.Errorf("%s: %v, then %v", kindNames[kind], first, again)
			}
		}
	}
}
