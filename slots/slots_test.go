package slots

import (
	"math"
	"math/rand"
	"reflect"
	"slices"
	"strconv"
	"testing"

	"tithe/api"
)

// The chapter's factors, written out: a handle is kind * kindFactor + slot * slotFactor + generation.
const (
	kindFactor = 1099511627776
	slotFactor = 1048576
)

// Kinds that there are, and numbers that are no kind.
var (
	kinds      = []int{1, 2, 3}
	wrongKinds = []int{math.MinInt, -1 << 40, -2, -1, 0, 4, 5, 255, 257, 1 << 22, 1<<24 + 1, 1 << 40, math.MaxInt}
)

// Numbers of slots that no table has.
var wrongMany = []int{math.MinInt, -4096, -1, 0, 4097, 4098, 8192, 65535, 65536, 1 << 32, 1<<32 + 1, math.MaxInt}

// strangers are numbers that are no handle, whatever the table.
var strangers = []api.Handle{
	math.MinInt, math.MinInt + 1, math.MinInt + kindFactor + 1, -kindFactor - 1, -1, 0, 1, 2, 1023, slotFactor, slotFactor + 1,
	kindFactor - 1, 4*kindFactor + 1, 1<<48 + kindFactor + 1, 1<<62 + kindFactor + 1, math.MaxInt,
}

// numberOf is a handle's number as layer 2 says it.
func numberOf(kind, slot, gen int) api.Handle {
	return api.Handle(kind*kindFactor + slot*slotFactor + gen)
}

// model is what a table must be like, told by what lives, and by how often each slot was dropped.
type model struct {
	kind  int
	drops []int
	live  map[int]string
	gone  []api.Handle
}

// modelOf is the model of a table without things.
func modelOf(kind, many int) *model {
	return &model{kind: kind, drops: make([]int, many), live: map[int]string{}}
}

// clone is a model of its own.
func (m *model) clone() *model {
	live := map[int]string{}
	for slot, v := range m.live {
		live[slot] = v
	}
	return &model{m.kind, slices.Clone(m.drops), live, slices.Clone(m.gone)}
}

// handleOf is a slot's handle.
func (m *model) handleOf(slot int) api.Handle { return numberOf(m.kind, slot, m.drops[slot]+1) }

// add is what Add must answer.
func (m *model) add(v string) (api.Handle, error) {
	for slot := range m.drops {
		if _, taken := m.live[slot]; !taken && m.drops[slot] < 1023 {
			m.live[slot] = v
			return m.handleOf(slot), nil
		}
	}
	return 0, api.ErrRoom
}

// slotOf is the slot that a handle names; -1 where it names none.
func (m *model) slotOf(h api.Handle) int {
	for slot := range m.live {
		if m.handleOf(slot) == h {
			return slot
		}
	}
	return -1
}

// drop is what Drop must answer.
func (m *model) drop(h api.Handle) error {
	slot := m.slotOf(h)
	if slot < 0 {
		return api.ErrHandle
	}
	delete(m.live, slot)
	m.drops[slot]++
	m.gone = append(m.gone, h)
	return nil
}

// set is what Set must answer.
func (m *model) set(h api.Handle, v string) error {
	slot := m.slotOf(h)
	if slot < 0 {
		return api.ErrHandle
	}
	m.live[slot] = v
	return nil
}

// told are the handles, the things by their slots, the generations, and what is taken.
func (m *model) told() (all []api.Handle, things []string, gens []int, taken []bool) {
	for slot, drops := range m.drops {
		v, is := m.live[slot]
		if is {
			all, things = append(all, m.handleOf(slot)), append(things, v)
		}
		gens, taken = append(gens, drops+1), append(taken, is)
	}
	return all, things, gens, taken
}

// wrong are handles that name nothing in a model's table: of the other kinds, of the generations beside, of free slots, of slots that aren't there, and what has gone.
func (m *model) wrong() []api.Handle {
	l := slices.Concat(strangers, m.gone)
	for slot, drops := range m.drops {
		gen := drops + 1
		for _, kind := range []int{0, 1, 2, 3, 4, m.kind + 256} {
			if kind != m.kind {
				l = append(l, numberOf(kind, slot, gen))
			}
		}
		l = append(l, numberOf(m.kind, slot, gen-1), numberOf(m.kind, slot, gen+1), numberOf(m.kind, slot, 0), -numberOf(m.kind, slot, gen))
		if _, taken := m.live[slot]; !taken {
			l = append(l, numberOf(m.kind, slot, gen))
		}
	}
	many := len(m.drops)
	return append(l, numberOf(m.kind, many, 1), numberOf(m.kind, many+1, 1), numberOf(m.kind, 65535, 1), numberOf(m.kind, 65536, 1), numberOf(m.kind, 65535, 1023))
}

// check holds a table against a model in all that can be asked without changing it.
func check(t *testing.T, tab *Table[string], m *model) {
	t.Helper()
	all, things, gens, taken := m.told()
	if got := tab.All(); !slices.Equal(got, all) {
		t.Fatalf("All() = %v; want %v", got, all)
	}
	if got := tab.Len(); got != len(all) {
		t.Fatalf("Len() = %d; want %d", got, len(all))
	}
	if gotGens, gotTaken := tab.Slots(); !slices.Equal(gotGens, gens) || !slices.Equal(gotTaken, taken) {
		t.Fatalf("Slots() = %v, %v; want %v, %v", gotGens, gotTaken, gens, taken)
	}
	for i, h := range all {
		if got, err := tab.Get(h); got != things[i] || err != nil {
			t.Fatalf("Get(%d) = %q, %v; want %q", h, got, err, things[i])
		}
	}
}

// checkWrong asks a table for what is not there: it answers ErrHandle, and nothing is changed.
func checkWrong(t *testing.T, tab *Table[string], m *model) {
	t.Helper()
	for _, h := range m.wrong() {
		if got, err := tab.Get(h); got != "" || err != api.ErrHandle {
			t.Errorf("Get(%d) = %q, %v", h, got, err)
		}
		if err := tab.Set(h, "wrong"); err != api.ErrHandle {
			t.Errorf("Set(%d): %v", h, err)
		}
		if err := tab.Drop(h); err != api.ErrHandle {
			t.Errorf("Drop(%d): %v", h, err)
		}
	}
	check(t, tab, m)
}

// made is a table without things, and its model.
func made(t *testing.T, kind, many int) (*Table[string], *model) {
	t.Helper()
	tab, err := New[string](kind, many)
	if tab == nil || err != nil {
		t.Fatalf("New(%d, %d) = %v, %v", kind, many, tab, err)
	}
	return tab, modelOf(kind, many)
}

// add lays a thing into both.
func add(t *testing.T, tab *Table[string], m *model, v string) api.Handle {
	t.Helper()
	got, err := tab.Add(v)
	if want, wantErr := m.add(v); got != want || err != wantErr {
		t.Fatalf("Add(%q) = %d, %v; want %d, %v", v, got, err, want, wantErr)
	}
	return got
}

// drop drops a handle of both.
func drop(t *testing.T, tab *Table[string], m *model, h api.Handle) {
	t.Helper()
	if err, want := tab.Drop(h), m.drop(h); err != want {
		t.Fatalf("Drop(%d): %v; want %v", h, err, want)
	}
}

// set lays another thing under a handle of both.
func set(t *testing.T, tab *Table[string], m *model, h api.Handle, v string) {
	t.Helper()
	if err, want := tab.Set(h, v), m.set(h, v); err != want {
		t.Fatalf("Set(%d): %v; want %v", h, err, want)
	}
}

// used is a table with things, such that went and such that stand in their place, and its model.
func used(t *testing.T, kind int) (*Table[string], *model) {
	t.Helper()
	tab, m := made(t, kind, 5)
	for _, v := range []string{"a", "b", "c", "d"} {
		add(t, tab, m, v)
	}
	drop(t, tab, m, m.handleOf(0))
	drop(t, tab, m, m.handleOf(2))
	add(t, tab, m, "e")
	return tab, m
}

// loaded is a table of what another one says.
func loaded(t *testing.T, tab *Table[string], kind int) *Table[string] {
	t.Helper()
	gens, taken := tab.Slots()
	var things []string
	for _, h := range tab.All() {
		v, err := tab.Get(h)
		if err != nil {
			t.Fatalf("Get(%d): %v", h, err)
		}
		things = append(things, v)
	}
	got, err := Load(kind, gens, taken, things)
	if err != nil {
		t.Fatalf("Load(%d, %v, %v, %q): %v", kind, gens, taken, things, err)
	}
	return got
}

// SL1, SL2: the chapter's example.
func TestExample(t *testing.T) {
	tab, err := New[string](1, 2)
	if err != nil {
		t.Fatal(err)
	}
	a, err := tab.Add("a")
	if a != 1099511627777 || err != nil {
		t.Errorf("Add of a = %d, %v", a, err)
	}
	b, err := tab.Add("b")
	if b != 1099512676353 || err != nil {
		t.Errorf("Add of b = %d, %v", b, err)
	}
	if h, err := tab.Add("x"); h != 0 || err != api.ErrRoom {
		t.Errorf("Add to a full table = %d, %v", h, err)
	}
	if err := tab.Drop(a); err != nil {
		t.Errorf("Drop of a: %v", err)
	}
	if c, err := tab.Add("c"); c != 1099511627778 || err != nil {
		t.Errorf("Add of c = %d, %v", c, err)
	}
	if v, err := tab.Get(a); v != "" || err != api.ErrHandle {
		t.Errorf("Get of a = %q, %v", v, err)
	}
}

// SL1: tables of each kind, from 1 to 4,096 slots: free ones of generation 1.
func TestNew(t *testing.T) {
	for _, kind := range kinds {
		for _, many := range []int{1, 2, 8, 16, 64, 1023, 1024, 4095, 4096} {
			tab, m := made(t, kind, many)
			check(t, tab, m)
			if h := add(t, tab, m, "first"); h != numberOf(kind, 0, 1) {
				t.Errorf("the first of %d slots of kind %d: %d", many, kind, h)
			}
			check(t, tab, m)
		}
	}
}

// SL1: what is no kind, or no number of slots, makes no table.
func TestNewOfWrong(t *testing.T) {
	wrong := func(kind, many int) {
		if got, err := New[string](kind, many); got != nil || err != api.ErrArg {
			t.Errorf("New(%d, %d) = %v, %v", kind, many, got, err)
		}
	}
	for _, kind := range wrongKinds {
		for _, many := range append([]int{1, 2, 4096}, wrongMany...) {
			wrong(kind, many)
		}
	}
	for _, kind := range kinds {
		for _, many := range wrongMany {
			wrong(kind, many)
		}
	}
}

// SL2: a table with nothing in it, at first and when all has gone.
func TestEmpty(t *testing.T) {
	for _, kind := range kinds {
		tab, m := made(t, kind, 3)
		checkWrong(t, tab, m)
		for _, v := range []string{"a", "b", "c"} {
			add(t, tab, m, v)
		}
		for slot := range 3 {
			drop(t, tab, m, m.handleOf(slot))
		}
		checkWrong(t, tab, m)
		if tab.Len() != 0 || len(tab.All()) != 0 {
			t.Errorf("%d things, %v, when all has gone", tab.Len(), tab.All())
		}
	}
}

// SL1: the lowest free slot is taken, in whatever order they came free.
func TestAddLowest(t *testing.T) {
	tab, m := made(t, 2, 6)
	for _, v := range []string{"a", "b", "c", "d", "e"} {
		add(t, tab, m, v)
	}
	for _, slot := range []int{3, 0, 4, 1} {
		drop(t, tab, m, m.handleOf(slot))
	}
	for i, want := range []api.Handle{
		numberOf(2, 0, 2), numberOf(2, 1, 2), numberOf(2, 3, 2), numberOf(2, 4, 2), numberOf(2, 5, 1),
	} {
		if got := add(t, tab, m, strconv.Itoa(i)); got != want {
			t.Errorf("Add number %d = %d; want %d", i, got, want)
		}
		check(t, tab, m)
	}
	checkWrong(t, tab, m)
}

// SL1: a table that is full has no room, be it of one slot or of all, till one is dropped; and nothing is changed by what finds no room.
func TestFull(t *testing.T) {
	for _, many := range []int{1, 2, 64, 4096} {
		tab, m := made(t, 3, many)
		for slot := range many {
			if h := add(t, tab, m, strconv.Itoa(slot)); h != numberOf(3, slot, 1) {
				t.Fatalf("slot %d of %d: %d", slot, many, h)
			}
		}
		for range 2 {
			if h, err := tab.Add("x"); h != 0 || err != api.ErrRoom {
				t.Errorf("Add to %d full slots = %d, %v", many, h, err)
			}
			check(t, tab, m)
		}
		drop(t, tab, m, m.handleOf(many-1))
		if h := add(t, tab, m, "y"); h != numberOf(3, many-1, 2) {
			t.Errorf("the last of %d slots again: %d", many, h)
		}
		if h, err := tab.Add("z"); h != 0 || err != api.ErrRoom {
			t.Errorf("Add to %d slots, full again = %d, %v", many, h, err)
		}
		check(t, tab, m)
	}
}

// SL1, SL2: a slot is given MaxGen times, then it is used up, and the next one is given.
func TestUsedUp(t *testing.T) {
	for _, kind := range kinds {
		tab, m := made(t, kind, 2)
		for gen := 1; gen <= 1023; gen++ {
			h := add(t, tab, m, "a")
			if h != numberOf(kind, 0, gen) {
				t.Fatalf("generation %d: %d", gen, h)
			}
			if gen == 1023 {
				check(t, tab, m)
			}
			drop(t, tab, m, h)
		}
		if gens, taken := tab.Slots(); !slices.Equal(gens, []int{1024, 1}) || !slices.Equal(taken, []bool{false, false}) {
			t.Errorf("Slots() = %v, %v", gens, taken)
		}
		if h := add(t, tab, m, "b"); h != numberOf(kind, 1, 1) {
			t.Errorf("behind a slot that is used up: %d", h)
		}
		if h, err := tab.Add("c"); h != 0 || err != api.ErrRoom {
			t.Errorf("Add where one slot is used up and one taken = %d, %v", h, err)
		}
		checkWrong(t, tab, m)
		for gen := 1; gen < 1023; gen++ {
			drop(t, tab, m, numberOf(kind, 1, gen))
			add(t, tab, m, "b")
		}
		drop(t, tab, m, numberOf(kind, 1, 1023))
		if h, err := tab.Add("c"); h != 0 || err != api.ErrRoom {
			t.Errorf("Add where all is used up = %d, %v", h, err)
		}
		checkWrong(t, tab, m)
		check(t, loaded(t, tab, kind), m)
	}
}

// SL2: things are got, changed and dropped by their own handles, each by itself.
func TestGetSetDrop(t *testing.T) {
	for _, kind := range kinds {
		tab, m := used(t, kind)
		check(t, tab, m)
		set(t, tab, m, numberOf(kind, 1, 1), "B")
		check(t, tab, m)
		set(t, tab, m, numberOf(kind, 1, 1), "")
		set(t, tab, m, numberOf(kind, 0, 2), "E")
		check(t, tab, m)
		drop(t, tab, m, numberOf(kind, 1, 1))
		check(t, tab, m)
		set(t, tab, m, numberOf(kind, 3, 1), "D")
		check(t, tab, m)
		if v, err := tab.Get(numberOf(kind, 3, 1)); v != "D" || err != nil {
			t.Errorf("Get behind Set = %q, %v", v, err)
		}
	}
}

// SL2: handles of another kind, of a free slot, of an elder generation, of a younger one, and numbers that are none.
func TestWrongHandles(t *testing.T) {
	for _, kind := range kinds {
		tab, m := used(t, kind)
		checkWrong(t, tab, m)
		whole, wholeModel := made(t, kind, 4096)
		for range 4096 {
			add(t, whole, wholeModel, "v")
		}
		for _, slot := range []int{4096, 4097, 8192, 65535, 65536} {
			h := numberOf(kind, slot, 1)
			if v, err := whole.Get(h); v != "" || err != api.ErrHandle {
				t.Errorf("Get of slot %d = %q, %v", slot, v, err)
			}
			if err := whole.Set(h, "x"); err != api.ErrHandle {
				t.Errorf("Set of slot %d: %v", slot, err)
			}
			if err := whole.Drop(h); err != api.ErrHandle {
				t.Errorf("Drop of slot %d: %v", slot, err)
			}
		}
		check(t, whole, wholeModel)
	}
}

// SL2: handles stand by their slots, not by when they came; that of a greater generation too.
func TestAllBySlots(t *testing.T) {
	tab, m := made(t, 1, 4)
	for _, v := range []string{"a", "b", "c"} {
		add(t, tab, m, v)
	}
	for range 5 {
		drop(t, tab, m, m.handleOf(0))
		add(t, tab, m, "again")
	}
	drop(t, tab, m, m.handleOf(1))
	if got, want := tab.All(), []api.Handle{numberOf(1, 0, 6), numberOf(1, 2, 1)}; !slices.Equal(got, want) || tab.Len() != 2 {
		t.Errorf("All() = %v, Len() = %d; want %v", got, tab.Len(), want)
	}
}

// SL2: a clone is the same, and from there on each goes its own way.
func TestClone(t *testing.T) {
	for _, kind := range kinds {
		tab, m := used(t, kind)
		other, otherModel := tab.Clone(), m.clone()
		check(t, other, otherModel)
		checkWrong(t, other, otherModel)
		apart(t, tab, m, other, otherModel)
		tab, m = used(t, kind)
		other, otherModel = tab.Clone(), m.clone()
		apart(t, other, otherModel, tab, m)
	}
	tab, m := made(t, 1, 3)
	other, otherModel := tab.Clone(), m.clone()
	check(t, other, otherModel)
	add(t, tab, m, "a")
	check(t, other, otherModel)
	add(t, other, otherModel, "b")
	check(t, tab, m)
}

// apart does to one of two tables made by used what can be done, and looks that the other one stays; then it does other things to that one.
func apart(t *testing.T, a *Table[string], am *model, b *Table[string], bm *model) {
	t.Helper()
	set(t, a, am, am.handleOf(0), "of a")
	check(t, b, bm)
	add(t, a, am, "more of a")
	check(t, b, bm)
	drop(t, a, am, am.handleOf(1))
	check(t, b, bm)
	drop(t, b, bm, bm.handleOf(3))
	set(t, b, bm, bm.handleOf(1), "of b")
	add(t, b, bm, "more of b")
	add(t, b, bm, "most of b")
	add(t, b, bm, "and more")
	add(t, b, bm, "no room")
	check(t, a, am)
	check(t, b, bm)
	checkWrong(t, a, am)
	checkWrong(t, b, bm)
}

// SL2: of the things a clone has a plain copy: what they point to is the same.
func TestCloneIsPlain(t *testing.T) {
	tab, err := New[*int](2, 1)
	if err != nil {
		t.Fatal(err)
	}
	n := 7
	h, err := tab.Add(&n)
	if err != nil {
		t.Fatal(err)
	}
	other := tab.Clone()
	if p, err := other.Get(h); p != &n || err != nil {
		t.Errorf("Get of a clone = %p, %v; want %p", p, err, &n)
	}
	n = 8
	if p, err := other.Get(h); *p != 8 || err != nil {
		t.Errorf("through a clone's pointer: %d, %v", *p, err)
	}
}

// SL3: slots that are loaded, with the things given out by their slots.
func TestLoad(t *testing.T) {
	for _, kind := range kinds {
		gens, taken, things := []int{1, 7, 1024, 1023, 1023, 3}, []bool{false, true, false, true, false, true}, []string{"a", "b", "c"}
		tab, err := Load(kind, gens, taken, things)
		if err != nil {
			t.Fatal(err)
		}
		m := &model{kind, []int{0, 6, 1023, 1022, 1022, 2}, map[int]string{1: "a", 3: "b", 5: "c"}, nil}
		check(t, tab, m)
		checkWrong(t, tab, m)
		for i, want := range []api.Handle{numberOf(kind, 0, 1), numberOf(kind, 4, 1023), 0} {
			if got := add(t, tab, m, strconv.Itoa(i)); got != want {
				t.Errorf("Add number %d = %d; want %d", i, got, want)
			}
		}
		drop(t, tab, m, numberOf(kind, 3, 1023))
		add(t, tab, m, "no room")
		drop(t, tab, m, numberOf(kind, 1, 7))
		if got := add(t, tab, m, "d"); got != numberOf(kind, 1, 8) {
			t.Errorf("Add = %d", got)
		}
		checkWrong(t, tab, m)
	}
}

// SL3: one slot and 4,096 are loaded, all of them taken or none.
func TestLoadOfMany(t *testing.T) {
	for _, many := range []int{1, 2, 4096} {
		gens := slices.Repeat([]int{1023}, many)
		tab, err := Load(1, gens, make([]bool, many), []string(nil))
		if err != nil {
			t.Fatal(err)
		}
		m := modelOf(1, many)
		for slot := range many {
			m.drops[slot] = 1022
		}
		check(t, tab, m)
		things := make([]string, many)
		for slot := range many {
			things[slot] = strconv.Itoa(slot)
			m.live[slot] = things[slot]
		}
		tab, err = Load(1, gens, slices.Repeat([]bool{true}, many), things)
		if err != nil {
			t.Fatal(err)
		}
		check(t, tab, m)
		add(t, tab, m, "no room")
		drop(t, tab, m, numberOf(1, many-1, 1023))
		add(t, tab, m, "no room")
		check(t, tab, m)
		tab, err = Load(1, slices.Repeat([]int{1024}, many), make([]bool, many), []string{})
		if err != nil {
			t.Fatal(err)
		}
		if h, err := tab.Add("x"); h != 0 || err != api.ErrRoom || tab.Len() != 0 {
			t.Errorf("Add to %d slots that are used up = %d, %v", many, h, err)
		}
	}
}

// SL3: what New would refuse is told ahead of all that is wrong with the slots.
func TestLoadOfNoTable(t *testing.T) {
	wrong := func(kind, many int, gen int, taken []bool, things []string) {
		if got, err := Load(kind, slices.Repeat([]int{gen}, many), taken, things); got != nil || err != api.ErrArg {
			t.Errorf("Load of kind %d and %d slots of generation %d, %d taken or not, %d things = %v, %v", kind, many, gen, len(taken), len(things), got, err)
		}
	}
	for _, kind := range append(wrongKinds, kinds...) {
		for _, many := range []int{0, 1, 2, 4096, 4097, 5000, 1 << 16} {
			if many >= 1 && many <= 4096 && slices.Contains(kinds, kind) {
				continue
			}
			for _, gen := range []int{1, 0, 1024} {
				wrong(kind, many, gen, make([]bool, many), nil)
				wrong(kind, many, gen, make([]bool, many+1), nil)
				wrong(kind, many, gen, nil, []string{"a"})
				wrong(kind, many, gen, slices.Repeat([]bool{true}, many), make([]string, many))
			}
		}
	}
	if got, err := Load[string](1, nil, nil, nil); got != nil || err != api.ErrArg {
		t.Errorf("Load of nothing = %v, %v", got, err)
	}
}

// SL3: slots that can't be.
func TestLoadOfWrong(t *testing.T) {
	wrong := func(gens []int, taken []bool, things []string) {
		t.Helper()
		for _, kind := range kinds {
			if got, err := Load(kind, gens, taken, things); got != nil || err != api.ErrState {
				t.Errorf("Load(%d, %v, %v, %q) = %v, %v", kind, gens, taken, things, got, err)
			}
		}
	}
	a, ab := []string{"a"}, []string{"a", "b"}
	for _, gen := range []int{math.MinInt, -1023, -1, 0, 1025, 1026, 2047, 65536, 1 << 20, 1<<20 + 1, 1 << 32, math.MaxInt} {
		wrong([]int{gen}, []bool{true}, a)
		wrong([]int{gen}, []bool{false}, nil)
		wrong([]int{gen, 1}, []bool{false, true}, a)
		wrong([]int{1, gen}, []bool{true, false}, a)
		wrong([]int{2, gen, 3}, []bool{false, true, false}, a)
		wrong([]int{1, 1, 1, gen}, []bool{true, false, false, true}, ab)
	}
	wrong([]int{1024}, []bool{true}, a)
	wrong([]int{1, 1024}, []bool{false, true}, a)
	wrong([]int{1024, 1}, []bool{true, true}, ab)
	for _, taken := range [][]bool{nil, {}, {true}, {true, false, false}, {true, false, true}, {false, false, false, true}} {
		wrong([]int{1, 1}, taken, a)
		wrong([]int{1, 1}, taken, nil)
		wrong([]int{1, 1}, taken, ab)
	}
	for _, things := range [][]string{nil, {}, a, {"a", "b", "c"}, {"a", "b", "c", "d"}} {
		wrong([]int{1, 5, 9}, []bool{true, false, true}, things)
	}
	wrong([]int{1, 1024}, []bool{false, false}, a)
	wrong([]int{1}, []bool{true}, nil)
	wrong([]int{1}, []bool{false}, a)
}

// SL3: Load at slots of all sorts takes just those that may be.
func TestLoadOfChance(t *testing.T) {
	r := rand.New(rand.NewSource(3))
	some := []int{-1, 0, 1, 2, 1022, 1023, 1024, 1025}
	fine := 0
	for range 20000 {
		kind, gens, taken := 1+r.Intn(3), make([]int, 1+r.Intn(3)), make([]bool, 1+r.Intn(3))
		for i := range gens {
			gens[i] = some[r.Intn(len(some))]
		}
		for i := range taken {
			taken[i] = r.Intn(2) == 0
		}
		things := make([]string, r.Intn(4))
		for i := range things {
			things[i] = strconv.Itoa(i)
		}
		tab, err := Load(kind, gens, taken, things)
		want := modelOfSlots(kind, gens, taken, things)
		if want == nil {
			if tab != nil || err != api.ErrState {
				t.Fatalf("Load(%d, %v, %v, %q) = %v, %v", kind, gens, taken, things, tab, err)
			}
			continue
		}
		if err != nil {
			t.Fatalf("Load(%d, %v, %v, %q): %v", kind, gens, taken, things, err)
		}
		fine++
		check(t, tab, want)
		checkWrong(t, tab, want)
	}
	if fine < 100 {
		t.Errorf("only %d that may be", fine)
	}
}

// modelOfSlots is the model of slots; nil, if they may not be.
func modelOfSlots(kind int, gens []int, taken []bool, things []string) *model {
	if len(gens) != len(taken) {
		return nil
	}
	m := modelOf(kind, len(gens))
	for slot := range gens {
		m.drops[slot] = gens[slot] - 1
		if m.drops[slot] < 0 || m.drops[slot] > 1023 || m.drops[slot] == 1023 && taken[slot] {
			return nil
		}
		if taken[slot] {
			if len(things) == 0 {
				return nil
			}
			m.live[slot], things = things[0], things[1:]
		}
	}
	if len(things) > 0 {
		return nil
	}
	return m
}

// SL4: rows of calls by chance, on a table, on clones of it and on what is loaded of it: each is what its model says, and what went never comes back.
func TestRows(t *testing.T) {
	for seed := range 60 {
		r := rand.New(rand.NewSource(int64(seed)))
		kind, many := kinds[seed%3], 1+r.Intn(9)
		tab, m := made(t, kind, many)
		for step := range 300 {
			row(t, r, tab, m, strconv.Itoa(step))
			if step%20 == 0 {
				check(t, tab, m)
			}
			if step%75 == 0 {
				checkWrong(t, tab, m)
			}
			switch r.Intn(40) {
			case 0:
				other, otherModel := tab.Clone(), m.clone()
				row(t, r, other, otherModel, "other")
				check(t, tab, m)
				tab, m = other, otherModel
			case 1:
				other, otherModel := loaded(t, tab, kind), m.clone()
				row(t, r, tab, m, "other")
				check(t, tab, m)
				tab, m = other, otherModel
			}
		}
		check(t, tab, m)
		checkWrong(t, tab, m)
	}
}

// row does one thing to both.
func row(t *testing.T, r *rand.Rand, tab *Table[string], m *model, v string) {
	t.Helper()
	h := m.handleOf(r.Intn(len(m.drops)))
	if n := len(m.gone); n > 0 && r.Intn(4) == 0 {
		h = m.gone[r.Intn(n)]
	}
	switch r.Intn(5) {
	case 0, 1:
		add(t, tab, m, v)
	case 2, 3:
		drop(t, tab, m, h)
	default:
		set(t, tab, m, h, v)
	}
}

// SL4: what was dropped stays gone over all generations of its slot, whatever stands there now.
func TestGoneForEver(t *testing.T) {
	tab, m := made(t, 2, 1)
	for range 1023 {
		h := add(t, tab, m, "a")
		if slices.Contains(m.gone, h) {
			t.Fatalf("%d came back", h)
		}
		for _, old := range m.gone {
			if v, err := tab.Get(old); v != "" || err != api.ErrHandle {
				t.Fatalf("Get(%d) behind %d = %q, %v", old, h, v, err)
			}
		}
		drop(t, tab, m, h)
	}
	add(t, tab, m, "no room")
	checkWrong(t, tab, m)
}

// SL4: what Slots and the things say makes the same table, in all that it keeps: nothing of what went is kept.
func TestLoadOfSlots(t *testing.T) {
	for _, kind := range kinds {
		tab, m := used(t, kind)
		other := loaded(t, tab, kind)
		if !reflect.DeepEqual(tab, other) || !reflect.DeepEqual(tab, tab.Clone()) {
			t.Errorf("%v and %v", tab, other)
		}
		otherModel := m.clone()
		check(t, other, otherModel)
		checkWrong(t, other, otherModel)
		apart(t, tab, m, other, otherModel)
	}
	for _, many := range []int{1, 4096} {
		tab, m := made(t, 1, many)
		check(t, loaded(t, tab, 1), m)
	}
}

// SL1 to SL3: the table is one of whatever things: structs, slices, functions and such that have no size.
func TestThings(t *testing.T) {
	nodes, err := New[api.Node](1, 2)
	if err != nil {
		t.Fatal(err)
	}
	h, err := nodes.Add(api.Node{Clock: 5, Kids: []api.Handle{1}})
	if err != nil {
		t.Fatal(err)
	}
	if n, err := nodes.Get(h); n.Clock != 5 || len(n.Kids) != 1 || err != nil {
		t.Errorf("Get = %v, %v", n, err)
	}
	if err := nodes.Drop(h); err != nil {
		t.Error(err)
	}
	if n, err := nodes.Get(h); !reflect.DeepEqual(n, api.Node{}) || err != api.ErrHandle {
		t.Errorf("Get of what went = %v, %v", n, err)
	}
	calls, err := Load(2, []int{3, 4}, []bool{false, true}, []func() int{func() int { return 9 }})
	if err != nil {
		t.Fatal(err)
	}
	if f, err := calls.Get(numberOf(2, 1, 4)); f == nil || f() != 9 || err != nil {
		t.Errorf("Get of a function: %v", err)
	}
	nothings, err := Load(3, []int{1, 1}, []bool{true, true}, make([]struct{}, 2))
	if err != nil || nothings.Len() != 2 {
		t.Errorf("Load of things without size: %v", err)
	}
	lists, err := New[[]int](3, 1)
	if err != nil {
		t.Fatal(err)
	}
	if h, err = lists.Add(nil); err != nil || lists.Len() != 1 {
		t.Errorf("Add of nothing: %v", err)
	}
	if l, err := lists.Get(h); l != nil || err != nil {
		t.Errorf("Get of nothing = %v, %v", l, err)
	}
}

// P8 for Load: what is handed in is neither changed nor kept, nor what lies behind it.
func TestListsStay(t *testing.T) {
	gens, taken, things := []int{4, 5, 6, 99}, []bool{true, false, true, true}, []string{"a", "b", "c"}
	tab, err := Load(1, gens[:3], taken[:3], things[:2])
	if err != nil {
		t.Fatal(err)
	}
	m := &model{1, []int{3, 4, 5}, map[int]string{0: "a", 2: "b"}, nil}
	add(t, tab, m, "d")
	set(t, tab, m, numberOf(1, 2, 6), "B")
	drop(t, tab, m, numberOf(1, 0, 4))
	if !slices.Equal(gens, []int{4, 5, 6, 99}) || !slices.Equal(taken, []bool{true, false, true, true}) || !slices.Equal(things, []string{"a", "b", "c"}) {
		t.Errorf("changed to %v, %v, %q", gens, taken, things)
	}
	clear(gens)
	clear(taken)
	clear(things)
	check(t, tab, m)
}

// P8 for All and Slots: each answer is memory of its own, its spare room too.
func TestAnswersAreNew(t *testing.T) {
	tab, m := used(t, 1)
	all, again := tab.All(), tab.All()
	gens, taken := tab.Slots()
	gensAgain, takenAgain := tab.Slots()
	clear(all[:cap(all)])
	clear(gens[:cap(gens)])
	clear(taken[:cap(taken)])
	wantAll, _, wantGens, wantTaken := m.told()
	if !slices.Equal(again, wantAll) || !slices.Equal(gensAgain, wantGens) || !slices.Equal(takenAgain, wantTaken) {
		t.Error("answers share memory")
	}
	check(t, tab, m)
}

// P8: tables know nothing of each other.
func TestTablesAreAlone(t *testing.T) {
	a, am := used(t, 1)
	b, bm := used(t, 1)
	apart(t, a, am, b, bm)
}

// P7, SL4: whatever is done, each call answers as the model says. A byte tells what is done, the next one to which slot and generation.
func FuzzCalls(f *testing.F) {
	f.Add(1, 2, "")
	f.Add(2, 1, "\x00\x00\x01\x00\x00\x00")
	f.Add(3, 4096, "\x00\x00\x00\x00\x02\x01\x03\x01\x01\x00\x00\x00\x04\x00\x05\x00")
	f.Add(0, 5, "\x00\x00")
	f.Add(1, 4097, "\x00\x00")
	f.Fuzz(func(t *testing.T, kind, many int, calls string) {
		tab, err := New[string](kind, many)
		if kind < 1 || kind > 3 || many < 1 || many > 4096 {
			if tab != nil || err != api.ErrArg {
				t.Fatalf("New(%d, %d) = %v, %v", kind, many, tab, err)
			}
			return
		}
		if err != nil {
			t.Fatalf("New(%d, %d): %v", kind, many, err)
		}
		m := modelOf(kind, many)
		for ; len(calls) > 1; calls = calls[2:] {
			h := numberOf(kind, int(calls[1]&15), int(calls[1]>>4))
			switch calls[0] % 6 {
			case 0:
				add(t, tab, m, calls)
			case 1:
				drop(t, tab, m, h)
			case 2:
				set(t, tab, m, h, calls)
			case 3:
				got, err := tab.Get(h)
				if slot := m.slotOf(h); slot < 0 && (got != "" || err != api.ErrHandle) || slot >= 0 && (got != m.live[slot] || err != nil) {
					t.Fatalf("Get(%d) = %q, %v", h, got, err)
				}
			case 4:
				tab, m = tab.Clone(), m.clone()
			default:
				tab = loaded(t, tab, kind)
			}
		}
		check(t, tab, m)
	})
}
