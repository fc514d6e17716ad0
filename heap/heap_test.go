package heap

import (
	"cmp"
	"math"
	"math/rand"
	"slices"
	"strconv"
	"strings"
	"testing"

	"tithe/api"
)

// edges are numbers at which something might change, the least and the greatest int among them; as numbers and as keys.
var edges = []int{math.MinInt, math.MinInt + 1, math.MinInt32 - 1, math.MinInt32, -65536, -256, -2, -1, 0, 1, 2, 255, 256, 65535, math.MaxInt32, math.MaxInt32 + 1, 1 << 32, 1<<32 + 1, math.MaxInt - 1, math.MaxInt}

// model is what a heap must be like: its numbers and their keys, the first one in the order first.
type model[K cmp.Ordered] struct {
	ids  []int
	keys []K
}

// at is the place in the order at which a number stands, or -1.
func (m *model[K]) at(id int) int { return slices.Index(m.ids, id) }

// in lays a number in ahead of the first that it comes ahead of.
func (m *model[K]) in(id int, key K) {
	place := 0
	for place < len(m.ids) && (m.keys[place] < key || m.keys[place] == key && m.ids[place] < id) {
		place++
	}
	m.ids = slices.Insert(m.ids, place, id)
	m.keys = slices.Insert(m.keys, place, key)
}

// out takes the number at a place in the order out.
func (m *model[K]) out(place int) {
	m.ids = slices.Delete(m.ids, place, place+1)
	m.keys = slices.Delete(m.keys, place, place+1)
}

// clone is a model of its own.
func (m *model[K]) clone() *model[K] { return &model[K]{slices.Clone(m.ids), slices.Clone(m.keys)} }

// none are numbers that a model doesn't have.
func (m *model[K]) none() []int {
	var l []int
	for _, id := range append(slices.Clone(edges), 7, 1000, -1000) {
		if m.at(id) < 0 {
			l = append(l, id)
		}
	}
	return l
}

// made is a heap with these keys, of the numbers 0, 1, 2 and so on, and its model.
func made[K cmp.Ordered](t *testing.T, keys ...K) (*Heap[K], *model[K]) {
	t.Helper()
	h, m := New[K](), &model[K]{}
	if h == nil {
		t.Fatal("New() = nil")
	}
	for id, key := range keys {
		push(t, h, m, id, key)
	}
	return h, m
}

// push lays a number into both.
func push[K cmp.Ordered](t *testing.T, h *Heap[K], m *model[K], id int, key K) {
	t.Helper()
	var want error = api.ErrArg
	if m.at(id) < 0 {
		want = nil
		m.in(id, key)
	}
	if err := h.Push(id, key); err != want {
		t.Fatalf("Push(%d, %v): %v; want %v", id, key, err, want)
	}
}

// move gives a number of both another key.
func move[K cmp.Ordered](t *testing.T, h *Heap[K], m *model[K], id int, key K) {
	t.Helper()
	var want error = api.ErrNone
	if place := m.at(id); place >= 0 {
		want = nil
		m.out(place)
		m.in(id, key)
	}
	if err := h.Move(id, key); err != want {
		t.Fatalf("Move(%d, %v): %v; want %v", id, key, err, want)
	}
}

// drop takes a number out of both.
func drop[K cmp.Ordered](t *testing.T, h *Heap[K], m *model[K], id int) {
	t.Helper()
	var want error = api.ErrNone
	if place := m.at(id); place >= 0 {
		want = nil
		m.out(place)
	}
	if err := h.Drop(id); err != want {
		t.Fatalf("Drop(%d): %v; want %v", id, err, want)
	}
}

// pop takes the first one out of both.
func pop[K cmp.Ordered](t *testing.T, h *Heap[K], m *model[K]) {
	t.Helper()
	id, key, there := h.Pop()
	checkFirst(t, "Pop()", m, id, key, there)
	if len(m.ids) > 0 {
		m.out(0)
	}
}

// checkFirst holds what a call tells as the first one against a model.
func checkFirst[K cmp.Ordered](t *testing.T, call string, m *model[K], id int, key K, there bool) {
	t.Helper()
	var wantID int
	var wantKey K
	if len(m.ids) > 0 {
		wantID, wantKey = m.ids[0], m.keys[0]
	}
	if id != wantID || key != wantKey || there != (len(m.ids) > 0) {
		t.Fatalf("%s = %d, %v, %v; of %v with %v", call, id, key, there, m.ids, m.keys)
	}
}

// check holds a heap against a model in all that can be asked without changing it.
func check[K cmp.Ordered](t *testing.T, h *Heap[K], m *model[K]) {
	t.Helper()
	if h.Len() != len(m.ids) {
		t.Fatalf("Len() = %d; want %d", h.Len(), len(m.ids))
	}
	if got := h.All(); !slices.Equal(got, m.ids) {
		t.Fatalf("All() = %v; want %v with %v", got, m.ids, m.keys)
	}
	id, key, there := h.Min()
	checkFirst(t, "Min()", m, id, key, there)
	for place, id := range m.ids {
		if key, there := h.Key(id); key != m.keys[place] || !there {
			t.Fatalf("Key(%d) = %v, %v; want %v", id, key, there, m.keys[place])
		}
	}
}

// checkWrong asks a heap for what is not there, and puts in what is: nothing is changed.
func checkWrong[K cmp.Ordered](t *testing.T, h *Heap[K], m *model[K], key K) {
	t.Helper()
	var zero K
	for _, id := range m.none() {
		if key, there := h.Key(id); key != zero || there {
			t.Errorf("Key(%d) = %v, %v", id, key, there)
		}
		if err := h.Move(id, key); err != api.ErrNone {
			t.Errorf("Move(%d, %v): %v", id, key, err)
		}
		if err := h.Drop(id); err != api.ErrNone {
			t.Errorf("Drop(%d): %v", id, err)
		}
	}
	for _, id := range slices.Clone(m.ids) {
		if err := h.Push(id, key); err != api.ErrArg {
			t.Errorf("Push(%d, %v) again: %v", id, key, err)
		}
	}
	if len(m.ids) == 0 {
		id, key, there := h.Pop()
		checkFirst(t, "Pop()", m, id, key, there)
	}
	check(t, h, m)
}

// popAll takes one after another out, till none is left.
func popAll[K cmp.Ordered](t *testing.T, h *Heap[K], m *model[K]) {
	t.Helper()
	all := h.All()
	var popped []int
	for range len(m.ids) {
		popped = append(popped, m.ids[0])
		pop(t, h, m)
		check(t, h, m)
	}
	if !slices.Equal(popped, all) {
		t.Fatalf("%v left; All() said %v", popped, all)
	}
	pop(t, h, m)
	check(t, h, m)
}

// orders are all orders of these elements.
func orders[T any](list []T) [][]T {
	if len(list) == 0 {
		return [][]T{nil}
	}
	var all [][]T
	for i, v := range list {
		rest := slices.Delete(slices.Clone(list), i, i+1)
		for _, l := range orders(rest) {
			all = append(all, append([]T{v}, l...))
		}
	}
	return all
}

// HP1, HP2: the chapter's example.
func TestExample(t *testing.T) {
	h := New[int]()
	for _, p := range [][2]int{{7, 30}, {3, 30}, {5, 10}} {
		if err := h.Push(p[0], p[1]); err != nil {
			t.Errorf("Push(%d, %d): %v", p[0], p[1], err)
		}
	}
	if l := h.All(); !slices.Equal(l, []int{5, 3, 7}) {
		t.Errorf("All() = %v", l)
	}
	if id, key, there := h.Min(); id != 5 || key != 10 || !there {
		t.Errorf("Min() = %d, %d, %v", id, key, there)
	}
	if err := h.Move(7, 1); err != nil {
		t.Errorf("Move(7, 1): %v", err)
	}
	if id, key, there := h.Min(); id != 7 || key != 1 || !there {
		t.Errorf("Min() = %d, %d, %v", id, key, there)
	}
	if err := h.Push(5, 2); err != api.ErrArg {
		t.Errorf("Push(5, 2): %v", err)
	}
	if key, there := h.Key(5); key != 10 || !there {
		t.Errorf("Key(5) = %d, %v", key, there)
	}
}

// HP1, HP2: a new heap has nothing in it, of whatever kind its keys are.
func TestNew(t *testing.T) {
	h, m := made[int](t)
	check(t, h, m)
	checkWrong(t, h, m, 0)
	texts, none := made[string](t)
	check(t, texts, none)
	checkWrong(t, texts, none, "")
	if id, key, there := texts.Min(); id != 0 || key != "" || there {
		t.Errorf("Min() = %d, %q, %v", id, key, there)
	}
	if id, key, there := texts.Pop(); id != 0 || key != "" || there {
		t.Errorf("Pop() = %d, %q, %v", id, key, there)
	}
	if l := texts.All(); len(l) != 0 {
		t.Errorf("All() = %v", l)
	}
}

// HP1, HP2, HP3: a heap with one number: it is the first, whatever its number and its key are, till it has gone.
func TestOne(t *testing.T) {
	for _, id := range edges {
		for _, key := range edges {
			h, m := made[int](t)
			push(t, h, m, id, key)
			check(t, h, m)
			checkWrong(t, h, m, key)
			checkWrong(t, h, m, -key)
			move(t, h, m, id, -key)
			check(t, h, m)
			pop(t, h, m)
			checkWrong(t, h, m, key)
			push(t, h, m, id, key)
			drop(t, h, m, id)
			checkWrong(t, h, m, key)
			drop(t, h, m, id)
			move(t, h, m, id, key)
			check(t, h, m)
		}
	}
}

// HP1, HP2, HP3: in whatever order numbers come, and whichever of their keys are the same, they stand and leave in the order.
func TestOrders(t *testing.T) {
	for _, keys := range [][]int{{1}, {1, 2}, {1, 1}, {1, 2, 3}, {1, 1, 2}, {1, 2, 2}, {1, 1, 1}, {1, 2, 3, 4, 5, 6}, {1, 1, 2, 2, 3, 3}, {-1, -1, -1, 0, 0, 1}, {5, 5, 5, 5, 5, 5}} {
		for _, ids := range orders([]int{-3, -1, 0, 2, 4, 9}[:len(keys)]) {
			h, m := made[int](t)
			for i, key := range keys {
				push(t, h, m, ids[i], key)
				check(t, h, m)
			}
			checkWrong(t, h, m, 1)
			popAll(t, h, m)
		}
	}
}

// HP2: of the same key the numbers decide, those below 0 first.
func TestEqualKeys(t *testing.T) {
	for _, key := range edges {
		h, m := made[int](t)
		for i := range edges {
			push(t, h, m, edges[(i*7)%len(edges)], key)
		}
		if l := h.All(); !slices.Equal(l, edges) {
			t.Errorf("All() = %v; want %v", l, edges)
		}
		checkWrong(t, h, m, key)
		popAll(t, h, m)
	}
}

// HP2: numbers decide only where keys are the same: here the greatest number has the least key.
func TestKeysDecide(t *testing.T) {
	h, m := made[int](t)
	for i, id := range edges {
		push(t, h, m, id, edges[len(edges)-1-i])
	}
	want := slices.Clone(edges)
	slices.Reverse(want)
	if l := h.All(); !slices.Equal(l, want) {
		t.Errorf("All() = %v; want %v", l, want)
	}
	checkWrong(t, h, m, 0)
	popAll(t, h, m)
}

// HP1, HP2: keys are texts too: they stand in the order of their bytes, the empty one first.
func TestTexts(t *testing.T) {
	texts := []string{"", "\x00", "\x00a", " ", "-1", "0", "10", "9", "A", "B", "a", "a\x00", "aa", "ab", "b", strings.Repeat("z", 99), strings.Repeat("z", 100), "é", "\xff"}
	h, m := made[string](t)
	for i := range texts {
		id := (i * 5) % len(texts)
		push(t, h, m, id, texts[id])
		push(t, h, m, -id-1, texts[id])
	}
	checkWrong(t, h, m, "")
	all := h.All()
	for i := range texts {
		if all[2*i] != -i-1 || all[2*i+1] != i {
			t.Errorf("at %d stand %d and %d; want %d and %d", 2*i, all[2*i], all[2*i+1], -i-1, i)
		}
	}
	move(t, h, m, len(texts)-1, "")
	move(t, h, m, -1, "\xff")
	check(t, h, m)
	drop(t, h, m, 3)
	checkWrong(t, h, m, "a")
	popAll(t, h, m)
}

// kind is a type of keys of its own.
type kind uint8

// HP1, HP2: keys are of whatever type has an order: small ones, such without a sign, types of one's own.
func TestKinds(t *testing.T) {
	small, sm := made[int8](t, math.MaxInt8, -1, math.MinInt8, 0, math.MinInt8)
	checkWrong(t, small, sm, -1)
	popAll(t, small, sm)
	big, bm := made[uint64](t, math.MaxUint64, 1<<63, 1<<63-1, 0, math.MaxUint64)
	checkWrong(t, big, bm, 1)
	popAll(t, big, bm)
	own, om := made[kind](t, 255, 128, 127, 0, 255)
	checkWrong(t, own, om, 1)
	popAll(t, own, om)
	floats, fm := made(t, 0.5, math.Inf(1), math.Inf(-1), math.MaxFloat64, math.SmallestNonzeroFloat64, -0.5, 0)
	checkWrong(t, floats, fm, 1.5)
	popAll(t, floats, fm)
}

// HP1, HP2: 0 and -0 are the same key, so that numbers decide; but a key that is given anew is that one.
func TestNoughts(t *testing.T) {
	minus := math.Copysign(0, -1)
	h, m := made(t, 0, minus, 0, minus)
	check(t, h, m)
	if l := h.All(); !slices.Equal(l, []int{0, 1, 2, 3}) {
		t.Errorf("All() = %v", l)
	}
	move(t, h, m, 1, 0)
	if key, _ := h.Key(1); math.Signbit(key) {
		t.Error("the key is -0 still")
	}
	move(t, h, m, 2, minus)
	if key, _ := h.Key(2); !math.Signbit(key) {
		t.Error("the key is 0 still")
	}
	popAll(t, h, m)
}

// Rule 1: keys that are no numbers make no call panic, and each number is in the heap as long as it is not out.
func TestNaN(t *testing.T) {
	h, nan := New[float64](), math.NaN()
	for id, key := range []float64{1, nan, 0, nan, -1, nan, 2} {
		if err := h.Push(id, key); err != nil {
			t.Errorf("Push(%d): %v", id, err)
		}
	}
	if err := h.Push(1, 1); err != api.ErrArg {
		t.Errorf("Push(1) again: %v", err)
	}
	if key, there := h.Key(3); !math.IsNaN(key) || !there {
		t.Errorf("Key(3) = %v, %v", key, there)
	}
	for _, err := range []error{h.Move(1, nan), h.Move(2, nan), h.Move(3, 5), h.Drop(5)} {
		if err != nil {
			t.Error(err)
		}
	}
	all := h.All()
	var popped []int
	for range 6 {
		id, _, there := h.Pop()
		if !there {
			t.Error("there is none")
		}
		popped = append(popped, id)
	}
	if !slices.Equal(popped, all) {
		t.Errorf("%v left; All() said %v", popped, all)
	}
	slices.Sort(popped)
	if !slices.Equal(popped, []int{0, 1, 2, 3, 4, 6}) || h.Len() != 0 {
		t.Errorf("%v left; %d are there", popped, h.Len())
	}
}

// HP1: a number is in a heap once: put in again it is refused under whatever key, and may come again when it has gone.
func TestPushTwice(t *testing.T) {
	h, m := made(t, 20, 10, 30)
	for _, key := range []int{20, 10, 9, 31, math.MinInt, math.MaxInt} {
		for id := range 3 {
			push(t, h, m, id, key)
			check(t, h, m)
		}
	}
	drop(t, h, m, 0)
	push(t, h, m, 0, 5)
	push(t, h, m, 0, 6)
	check(t, h, m)
	pop(t, h, m)
	push(t, h, m, 0, 40)
	push(t, h, m, 0, 1)
	check(t, h, m)
	popAll(t, h, m)
}

// HP1, HP2: each number may be moved up, down, to where it stands, and beside each other one.
func TestMove(t *testing.T) {
	for many := range 18 {
		for id := range many {
			for key := -1; key <= 2*many+1; key++ {
				h, m := made(t, evens(many)...)
				move(t, h, m, id, key)
				check(t, h, m)
				checkWrong(t, h, m, key)
				move(t, h, m, id, 2*id)
				check(t, h, m)
				move(t, h, m, id, key)
				popAll(t, h, m)
			}
		}
	}
}

// evens are so many even keys, the least first.
func evens(many int) []int {
	var l []int
	for i := range many {
		l = append(l, 2*i)
	}
	return l
}

// HP1: a number that is moved to the key that it has stays where it is, and so do the others.
func TestMoveToSame(t *testing.T) {
	h, m := made(t, 5, 3, 5, 1, 3, 5, 1, 9)
	for id := range 8 {
		key, _ := h.Key(id)
		move(t, h, m, id, key)
		check(t, h, m)
	}
	popAll(t, h, m)
}

// HP1: a number that is moved from one end to the other, again and again, stands there each time.
func TestMoveAcross(t *testing.T) {
	h, m := made(t, evens(20)...)
	for turn := range 40 {
		move(t, h, m, m.ids[0], 1000+turn)
		check(t, h, m)
		move(t, h, m, m.ids[len(m.ids)-1], -1000-turn)
		check(t, h, m)
		move(t, h, m, m.ids[10], edges[turn%len(edges)])
		check(t, h, m)
	}
	popAll(t, h, m)
}

// HP1, HP2: whichever is dropped, the first, one between or the last, the others stay in the order; it may come again.
func TestDrop(t *testing.T) {
	for many := range 18 {
		for _, keys := range [][]int{evens(many), reversed(evens(many)), mixed(many), make([]int, many)} {
			for id := range many {
				h, m := made(t, keys...)
				drop(t, h, m, id)
				check(t, h, m)
				drop(t, h, m, id)
				move(t, h, m, id, 3)
				checkWrong(t, h, m, 3)
				push(t, h, m, id, 3)
				check(t, h, m)
				drop(t, h, m, id)
				popAll(t, h, m)
			}
		}
	}
}

// reversed is a list from its end on.
func reversed(l []int) []int {
	slices.Reverse(l)
	return l
}

// mixed are so many keys, neither rising nor falling.
func mixed(many int) []int {
	var l []int
	for i := range many {
		l = append(l, i*i*7%11)
	}
	return l
}

// HP1: what takes the place of one that is dropped may belong above that place: it rises.
func TestDropRises(t *testing.T) {
	// The last one, with 3, stands below 2; it comes to where 20 stood, below 10.
	h, m := made(t, 1, 10, 2, 20, 21, 4, 3)
	drop(t, h, m, 3)
	check(t, h, m)
	popAll(t, h, m)
	h, m = made(t, 1, 10, 2, 20, 21, 4, 3)
	drop(t, h, m, 4)
	check(t, h, m)
	popAll(t, h, m)
}

// HP1, HP2: dropped one after another, in each order, a heap's numbers leave the others in the order.
func TestDropAll(t *testing.T) {
	for _, keys := range [][]int{{1, 2, 3, 4, 5, 6}, {6, 5, 4, 3, 2, 1}, {1, 5, 1, 5, 1, 5}, {0, 0, 0, 0, 0, 0}} {
		for _, ids := range orders([]int{0, 1, 2, 3, 4, 5}) {
			h, m := made(t, keys...)
			for _, id := range ids {
				drop(t, h, m, id)
				check(t, h, m)
			}
			checkWrong(t, h, m, 1)
		}
	}
}

// HP2: Min, Key, Len and All change nothing, be they asked ever so often.
func TestAskedAgain(t *testing.T) {
	h, m := made(t, 3, 1, 2, 1, 3)
	for range 20 {
		check(t, h, m)
	}
	popAll(t, h, m)
}

// HP2: keys and numbers that are 0 are there none the less.
func TestZeros(t *testing.T) {
	h, m := made(t, 0)
	if id, key, there := h.Min(); id != 0 || key != 0 || !there {
		t.Errorf("Min() = %d, %d, %v", id, key, there)
	}
	if key, there := h.Key(0); key != 0 || !there {
		t.Errorf("Key(0) = %d, %v", key, there)
	}
	checkWrong(t, h, m, 0)
	if id, key, there := h.Pop(); id != 0 || key != 0 || !there {
		t.Errorf("Pop() = %d, %d, %v", id, key, there)
	}
	if id, key, there := h.Pop(); id != 0 || key != 0 || there {
		t.Errorf("Pop() = %d, %d, %v", id, key, there)
	}
}

// HP3: one Pop after another gives what All said, with the keys that Key said.
func TestPops(t *testing.T) {
	for seed := range 50 {
		r := rand.New(rand.NewSource(int64(seed)))
		h := New[int]()
		for range r.Intn(200) {
			h.Push(r.Intn(100)-50, r.Intn(20)-10)
		}
		all := h.All()
		var keys []int
		for _, id := range all {
			key, _ := h.Key(id)
			keys = append(keys, key)
		}
		for i, want := range all {
			if id, key, there := h.Pop(); id != want || key != keys[i] || !there {
				t.Fatalf("Pop() = %d, %d, %v; want %d, %d", id, key, there, want, keys[i])
			}
			if l := h.All(); !slices.Equal(l, all[i+1:]) {
				t.Fatalf("All() = %v; want %v", l, all[i+1:])
			}
		}
		if _, _, there := h.Pop(); there || h.Len() != 0 {
			t.Fatalf("there are more than All said: %d", h.Len())
		}
	}
}

// HP2, rule 3: a list is memory of its own, its spare room too.
func TestAllIsNew(t *testing.T) {
	h, m := made(t, 3, 1, 2)
	list, again := h.All(), h.All()
	clear(list[:cap(list)])
	if !slices.Equal(again, m.ids) {
		t.Errorf("lists share memory: %v", again)
	}
	check(t, h, m)
	_ = append(again[:1], 7, 8, 9, 10)
	checkWrong(t, h, m, 0)
	list = h.All()
	push(t, h, m, 9, 0)
	move(t, h, m, 0, -1)
	drop(t, h, m, 1)
	if !slices.Equal(list, []int{1, 2, 0}) {
		t.Errorf("the list has gone with the heap: %v", list)
	}
	check(t, h, m)
	popAll(t, h, m)
}

// HP1, HP2: a heap that there is not has nothing in it and takes nothing in; no call panics.
func TestNil(t *testing.T) {
	var h *Heap[string]
	m := &model[string]{}
	for range 2 {
		checkWrong(t, h, m, "a")
		for _, id := range edges {
			if err := h.Push(id, "a"); err != api.ErrArg {
				t.Errorf("Push(%d): %v", id, err)
			}
		}
		check(t, h, m)
	}
}

// HP1, HP2, HP3: a heap that New has not made has nothing in it, and goes on like one that New has made.
func TestNotMade(t *testing.T) {
	var own struct{ h Heap[int] }
	for _, h := range []*Heap[int]{new(Heap[int]), {}, &own.h} {
		m := &model[int]{}
		check(t, h, m)
		checkWrong(t, h, m, 1)
		for i, id := range edges {
			push(t, h, m, id, i*7%5)
		}
		checkWrong(t, h, m, 1)
		move(t, h, m, 0, -1)
		drop(t, h, m, math.MaxInt)
		popAll(t, h, m)
		checkWrong(t, h, m, 1)
		push(t, h, m, 1, 1)
		check(t, h, m)
	}
	for _, call := range []func(h *Heap[int]) bool{
		func(h *Heap[int]) bool { _, _, there := h.Pop(); return there },
		func(h *Heap[int]) bool { return h.Move(1, 1) != api.ErrNone },
		func(h *Heap[int]) bool { return h.Drop(1) != api.ErrNone },
		func(h *Heap[int]) bool { _, there := h.Key(1); return there },
		func(h *Heap[int]) bool { return h.Push(1, 1) != nil },
		func(h *Heap[int]) bool { return len(h.All()) > 0 },
	} {
		if call(new(Heap[int])) {
			t.Error("the first call answers as if something were there")
		}
	}
}

// P8: two heaps know nothing of each other.
func TestHeapsAreAlone(t *testing.T) {
	a, am := made(t, 3, 1, 2)
	b, bm := made(t, 3, 1, 2)
	push(t, a, am, 3, 0)
	check(t, b, bm)
	move(t, b, bm, 0, -1)
	check(t, a, am)
	drop(t, a, am, 1)
	check(t, b, bm)
	pop(t, b, bm)
	check(t, a, am)
	push(t, b, bm, 3, 7)
	check(t, a, am)
	popAll(t, a, am)
	check(t, b, bm)
	push(t, a, am, 1, 1)
	popAll(t, b, bm)
	check(t, a, am)
}

// What has gone is not held any more: neither the map nor the spare room has anything of it.
func TestGoneIsNotHeld(t *testing.T) {
	h, m := made(t, "d", "b", "a", "c", "e", "f")
	held := func(step string) {
		t.Helper()
		if len(h.places) != len(m.ids) {
			t.Errorf("behind %s: places of %d; %d are there", step, len(h.places), len(m.ids))
		}
		for i, e := range h.list[len(h.list):cap(h.list)] {
			if e != (entry[string]{}) {
				t.Errorf("behind %s: %v stands %d behind the last", step, e, i)
			}
		}
	}
	pop(t, h, m)
	held("Pop")
	drop(t, h, m, 0)
	held("Drop")
	drop(t, h, m, m.ids[len(m.ids)-1])
	held("Drop of the last")
	popAll(t, h, m)
	held("Pop of all")
}

// HP1 to HP3: rows of calls by chance: each heap is what its model says.
func TestRows(t *testing.T) {
	for seed := range 80 {
		r := rand.New(rand.NewSource(int64(seed)))
		h, m := made[int](t)
		span := 1 + r.Intn(40)
		for step := range 500 {
			row(t, r, h, m, r.Intn(span)-span/2, r.Intn(span)-span/2)
			check(t, h, m)
			if step%50 == 0 {
				checkWrong(t, h, m, step)
			}
		}
		popAll(t, h, m)
	}
}

// HP1 to HP3: rows of calls by chance with texts as keys.
func TestRowsOfTexts(t *testing.T) {
	for seed := range 20 {
		r := rand.New(rand.NewSource(int64(seed)))
		h, m := made[string](t)
		for range 500 {
			row(t, r, h, m, edges[r.Intn(len(edges))], strconv.Itoa(r.Intn(120)))
			check(t, h, m)
		}
		popAll(t, h, m)
	}
}

// row does one thing to both.
func row[K cmp.Ordered](t *testing.T, r *rand.Rand, h *Heap[K], m *model[K], id int, key K) {
	t.Helper()
	switch r.Intn(10) {
	case 0, 1, 2, 3:
		push(t, h, m, id, key)
	case 4, 5, 6:
		move(t, h, m, id, key)
	case 7, 8:
		drop(t, h, m, id)
	default:
		pop(t, h, m)
	}
}

// HP3: a heap may be large: a call that went through all numbers would be seen here.
func TestLarge(t *testing.T) {
	const many = 1 << 18
	h := New[int]()
	for id := range many {
		if err := h.Push(id, id*7919%many); err != nil {
			t.Fatalf("Push(%d): %v", id, err)
		}
	}
	for id := 0; id < many; id += 2 {
		if err := h.Move(id, -id); err != nil {
			t.Fatalf("Move(%d): %v", id, err)
		}
	}
	for id := 1; id < many; id += 4 {
		if err := h.Drop(id); err != nil {
			t.Fatalf("Drop(%d): %v", id, err)
		}
	}
	all := h.All()
	if len(all) != many*3/4 || h.Len() != len(all) {
		t.Fatalf("%d and %d are there", len(all), h.Len())
	}
	lastID, lastKey := 0, math.MinInt
	for i, want := range all {
		id, key, there := h.Pop()
		if id != want || !there || key < lastKey || key == lastKey && id < lastID {
			t.Fatalf("Pop() = %d, %d, %v behind %d, %d; All() said %d at %d", id, key, there, lastID, lastKey, want, i)
		}
		lastID, lastKey = id, key
	}
	if h.Len() != 0 {
		t.Errorf("%d are left", h.Len())
	}
}

// P7, HP1 to HP3: whatever is done, each call answers as the model says. A byte tells what is done, the next one to which number, the third one with which key.
func FuzzCalls(f *testing.F) {
	f.Add("")
	f.Add("\x00\x07\x1e\x00\x03\x1e\x00\x05\x0a\x01\x07\x01\x00\x05\x02")
	f.Add("\x00\x80\x7f\x00\x7f\x80\x01\x80\x80\x02\x7f\x00\x03\x00\x00\x03\x00\x00")
	f.Fuzz(func(t *testing.T, calls string) {
		h, m := made[int8](t)
		for ; len(calls) > 2; calls = calls[3:] {
			id, key := int(int8(calls[1])), int8(calls[2])
			switch calls[0] % 4 {
			case 0:
				push(t, h, m, id, key)
			case 1:
				move(t, h, m, id, key)
			case 2:
				drop(t, h, m, id)
			default:
				pop(t, h, m)
			}
			check(t, h, m)
		}
		popAll(t, h, m)
	})
}
