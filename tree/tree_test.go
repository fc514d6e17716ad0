package tree

import (
	"math"
	"math/rand"
	"slices"
	"testing"

	"tithe/api"
)

// What the document writes: a node's handle is kindFactor + slot * slotFactor + generation; the slots, the deepest a node may be, the last generation.
const (
	kindFactor = 1099511627776
	slotFactor = 1048576
	maxNodes   = 64
	maxDepth   = 8
	maxGen     = 1023
)

// numberOf is a node's handle as layer 2 says it.
func numberOf(slot, gen int) api.Handle { return api.Handle(kindFactor + slot*slotFactor + gen) }

// rootHandle is the root's: slot 0, generation 1.
const rootHandle = api.Handle(1099511627777)

// strangers are numbers that are no node's handle, whatever the tree: such of other kinds, of slots beyond the table, and such that would be a node's, if cut off or shifted.
var strangers = []api.Handle{
	0, -1, -2, 1, 2, 1023, slotFactor, slotFactor + 1, math.MinInt, math.MinInt + 1, math.MaxInt - 1, math.MaxInt,
	math.MinInt + rootHandle, -rootHandle, rootHandle - 1, kindFactor - 1, 1<<48 + rootHandle, 1<<62 + rootHandle,
	2*kindFactor + 1, 3*kindFactor + 1, 4*kindFactor + 1, 2*kindFactor + slotFactor + 1, 3*kindFactor + slotFactor + 1,
	numberOf(maxNodes, 1), numberOf(maxNodes+1, 1), numberOf(2*maxNodes, 1), numberOf(4095, 1), numberOf(65535, 1),
	numberOf(65535, maxGen), numberOf(65536, 1), numberOf(-1, 1),
}

// model is what a tree must be like: by their slots the nodes' generations, whether they are there, and their parents' slots.
type model struct {
	gens  [maxNodes]int
	there [maxNodes]bool
	above [maxNodes]int // -1: of the root
	gone  []api.Handle
}

// modelOf is the model of the root alone.
func modelOf() *model {
	m := &model{}
	for slot := range m.gens {
		m.gens[slot] = 1
	}
	m.there[0], m.above[0] = true, -1
	return m
}

// handleAt is the handle of the node at a slot.
func (m *model) handleAt(slot int) api.Handle { return numberOf(slot, m.gens[slot]) }

// handles are those of the nodes at slots.
func (m *model) handles(slots []int) []api.Handle {
	l := []api.Handle{}
	for _, slot := range slots {
		l = append(l, m.handleAt(slot))
	}
	return l
}

// slotOf is the slot of a node that is there; -1 of what is not.
func (m *model) slotOf(h api.Handle) int {
	for slot := range m.there {
		if m.there[slot] && m.handleAt(slot) == h {
			return slot
		}
	}
	return -1
}

// live are the slots of the nodes that are there.
func (m *model) live() []int {
	l := []int{}
	for slot, there := range m.there {
		if there {
			l = append(l, slot)
		}
	}
	return l
}

// kids are the slots of the children of a node, the least first.
func (m *model) kids(slot int) []int {
	l := []int{}
	for _, kid := range m.live() {
		if m.above[kid] == slot {
			l = append(l, kid)
		}
	}
	return l
}

// chain are the slots from a node up to the root.
func (m *model) chain(slot int) []int {
	l := []int{}
	for slot != -1 {
		l = append(l, slot)
		slot = m.above[slot]
	}
	return l
}

// path are the slots from the root down to a node.
func (m *model) path(slot int) []int {
	l := m.chain(slot)
	slices.Reverse(l)
	return l
}

// order are the slots of a node and of all below it, each one's first child with its whole part ahead of the second one's.
func (m *model) order(slot int) []int {
	l, wait := []int{}, []int{slot}
	for len(wait) > 0 {
		first := wait[0]
		l = append(l, first)
		wait = slices.Concat(m.kids(first), wait[1:])
	}
	return l
}

// common is the slot of the last node on both paths.
func (m *model) common(a, b int) int {
	first, second := m.path(a), m.path(b)
	last := 0
	for i := 0; i < len(first) && i < len(second) && first[i] == second[i]; i++ {
		last = first[i]
	}
	return last
}

// add is what Add must answer.
func (m *model) add(parent api.Handle) (api.Handle, error) {
	at := m.slotOf(parent)
	if at < 0 {
		return 0, api.ErrHandle
	}
	if len(m.chain(at)) > maxDepth {
		return 0, api.ErrDepth
	}
	for slot := range m.there {
		if !m.there[slot] && m.gens[slot] <= maxGen {
			m.there[slot], m.above[slot] = true, at
			return m.handleAt(slot), nil
		}
	}
	return 0, api.ErrRoom
}

// remove is what Remove must answer.
func (m *model) remove(h api.Handle) ([]api.Handle, error) {
	at := m.slotOf(h)
	if at < 0 {
		return nil, api.ErrHandle
	}
	if at == 0 {
		return nil, api.ErrRoot
	}
	part := m.order(at)
	gone := m.handles(part)
	for _, slot := range part {
		m.there[slot] = false
		m.gens[slot]++
	}
	m.gone = append(m.gone, gone...)
	return gone, nil
}

// wrong are handles that name no node of a model's tree: strangers, of other kinds, of the generations beside, of free slots, and what has gone.
func (m *model) wrong() []api.Handle {
	l := slices.Concat(strangers, m.gone)
	for slot, gen := range m.gens {
		if !m.there[slot] {
			l = append(l, numberOf(slot, gen))
		}
		l = append(l, numberOf(slot, gen-1), numberOf(slot, gen+1), numberOf(slot, 0), numberOf(slot, 1024), -numberOf(slot, gen))
		l = append(l, numberOf(slot, gen)+kindFactor, numberOf(slot, gen)+2*kindFactor, numberOf(slot, gen)-kindFactor)
	}
	return l
}

// isList tells whether a call's answer was a list, and no error.
func isList(l []api.Handle, err error, want []api.Handle) bool {
	return slices.Equal(l, want) && err == nil
}

// check holds all that a tree tells against a model.
func check(t *testing.T, tr *Tree, m *model) {
	t.Helper()
	if got := tr.Root(); got != rootHandle {
		t.Fatalf("Root() = %d", got)
	}
	if got, want := tr.All(), m.handles(m.order(0)); !slices.Equal(got, want) {
		t.Fatalf("All() = %v; want %v", got, want)
	}
	for _, slot := range m.live() {
		checkNode(t, tr, m, slot)
		for _, other := range m.live() {
			checkPair(t, tr, m, slot, other)
		}
	}
}

// checkNode holds what a tree tells of a node against a model.
func checkNode(t *testing.T, tr *Tree, m *model, slot int) {
	t.Helper()
	h, above := m.handleAt(slot), api.Handle(0)
	if slot != 0 {
		above = m.handleAt(m.above[slot])
	}
	if got, err := tr.Parent(h); got != above || err != nil {
		t.Fatalf("Parent(%d) = %d, %v; want %d", h, got, err, above)
	}
	if got, err := tr.Kids(h); !isList(got, err, m.handles(m.kids(slot))) {
		t.Fatalf("Kids(%d) = %v, %v; want %v", h, got, err, m.handles(m.kids(slot)))
	}
	if got, err := tr.Depth(h); got != len(m.chain(slot))-1 || err != nil {
		t.Fatalf("Depth(%d) = %d, %v; want %d", h, got, err, len(m.chain(slot))-1)
	}
	if got, err := tr.Path(h); !isList(got, err, m.handles(m.path(slot))) {
		t.Fatalf("Path(%d) = %v, %v; want %v", h, got, err, m.handles(m.path(slot)))
	}
}

// checkPair holds what a tree tells of two nodes against a model.
func checkPair(t *testing.T, tr *Tree, m *model, a, b int) {
	t.Helper()
	h, of := m.handleAt(a), m.handleAt(b)
	within := slices.Contains(m.chain(a), b)
	if got, err := tr.Within(h, of); got != within || err != nil {
		t.Fatalf("Within(%d, %d) = %v, %v; want %v", h, of, got, err, within)
	}
	common := m.handleAt(m.common(a, b))
	if got, err := tr.Common(h, of); got != common || err != nil {
		t.Fatalf("Common(%d, %d) = %d, %v; want %d", h, of, got, err, common)
	}
}

// checkTheorem holds a tree against TR4 by its own words alone.
func checkTheorem(t *testing.T, tr *Tree) {
	t.Helper()
	all := tr.All()
	for _, h := range all {
		path, pathErr := tr.Path(h)
		depth, depthErr := tr.Depth(h)
		if pathErr != nil || depthErr != nil || len(path) != depth+1 {
			t.Fatalf("%d: Path %v, %v; Depth %d, %v", h, path, pathErr, depth, depthErr)
		}
		if h == tr.Root() {
			continue
		}
		parent, err := tr.Parent(h)
		if err != nil {
			t.Fatalf("Parent(%d): %v", h, err)
		}
		if kids, err := tr.Kids(parent); !slices.Contains(kids, h) || err != nil {
			t.Fatalf("Kids(%d) = %v, %v; %d is not among them", parent, kids, err, h)
		}
	}
}

// within are all nodes of a tree that are within one of it, in the order of All.
func within(t *testing.T, tr *Tree, of api.Handle) []api.Handle {
	t.Helper()
	l := []api.Handle{}
	for _, h := range tr.All() {
		is, err := tr.Within(h, of)
		if err != nil {
			t.Fatalf("Within(%d, %d): %v", h, of, err)
		}
		if is {
			l = append(l, h)
		}
	}
	return l
}

// refuses holds each call with a handle against ErrHandle, with results that are zero values.
func refuses(t *testing.T, tr *Tree, h api.Handle) {
	t.Helper()
	number := func(call string, got api.Handle, err error) {
		t.Helper()
		if got != 0 || err != api.ErrHandle {
			t.Errorf("%s(%d) = %d, %v", call, h, got, err)
		}
	}
	list := func(call string, got []api.Handle, err error) {
		t.Helper()
		if len(got) != 0 || err != api.ErrHandle {
			t.Errorf("%s(%d) = %v, %v", call, h, got, err)
		}
	}
	got, err := tr.Add(h)
	number("Add", got, err)
	got, err = tr.Parent(h)
	number("Parent", got, err)
	depth, err := tr.Depth(h)
	number("Depth", api.Handle(depth), err)
	l, err := tr.Remove(h)
	list("Remove", l, err)
	l, err = tr.Kids(h)
	list("Kids", l, err)
	l, err = tr.Path(h)
	list("Path", l, err)
}

// refusesPair holds the calls with two handles, one of them wrong, against ErrHandle.
func refusesPair(t *testing.T, tr *Tree, a, b api.Handle) {
	t.Helper()
	if got, err := tr.Within(a, b); got || err != api.ErrHandle {
		t.Errorf("Within(%d, %d) = %v, %v", a, b, got, err)
	}
	if got, err := tr.Common(a, b); got != 0 || err != api.ErrHandle {
		t.Errorf("Common(%d, %d) = %d, %v", a, b, got, err)
	}
}

// checkWrong asks a tree for what is not there: it answers ErrHandle, and nothing is changed.
func checkWrong(t *testing.T, tr *Tree, m *model) {
	t.Helper()
	for _, h := range m.wrong() {
		if m.slotOf(h) >= 0 {
			t.Fatalf("%d is a node's", h)
		}
		refuses(t, tr, h)
		refusesPair(t, tr, h, h)
		refusesPair(t, tr, h, math.MaxInt)
		for _, slot := range m.live() {
			refusesPair(t, tr, h, m.handleAt(slot))
			refusesPair(t, tr, m.handleAt(slot), h)
		}
	}
	check(t, tr, m)
}

// put lays a node into both, and holds the answer against the model.
func put(t *testing.T, tr *Tree, m *model, parent api.Handle) api.Handle {
	t.Helper()
	got, err := tr.Add(parent)
	if want, wantErr := m.add(parent); got != want || err != wantErr {
		t.Fatalf("Add(%d) = %d, %v; want %d, %v", parent, got, err, want, wantErr)
	}
	return got
}

// take takes a node out of both, and holds the answer against the model.
func take(t *testing.T, tr *Tree, m *model, h api.Handle) []api.Handle {
	t.Helper()
	got, err := tr.Remove(h)
	if want, wantErr := m.remove(h); !slices.Equal(got, want) || err != wantErr {
		t.Fatalf("Remove(%d) = %v, %v; want %v, %v", h, got, err, want, wantErr)
	}
	return got
}

// add lays a node into both, and holds the tree behind it against the model and against TR4.
func add(t *testing.T, tr *Tree, m *model, parent api.Handle) api.Handle {
	t.Helper()
	got := put(t, tr, m, parent)
	check(t, tr, m)
	checkTheorem(t, tr)
	return got
}

// remove takes a node out of both, and holds the answer, and the tree behind it, against the model and against TR4.
func remove(t *testing.T, tr *Tree, m *model, h api.Handle) []api.Handle {
	t.Helper()
	was := tr.All()
	should := []api.Handle{}
	if m.slotOf(h) > 0 {
		should = within(t, tr, h)
	}
	got := take(t, tr, m, h)
	left := slices.DeleteFunc(was, func(h api.Handle) bool { return slices.Contains(got, h) })
	if !slices.Equal(got, should) || !slices.Equal(tr.All(), left) {
		t.Fatalf("Remove(%d) = %v; those within it are %v; All() = %v; want %v", h, got, should, tr.All(), left)
	}
	check(t, tr, m)
	checkTheorem(t, tr)
	return got
}

// made is a tree of the root alone, and its model.
func made(t *testing.T) (*Tree, *model) {
	t.Helper()
	tr := New()
	if tr == nil {
		t.Fatal("New() is nil")
	}
	return tr, modelOf()
}

// grow adds nodes, each below the node at a slot.
func grow(t *testing.T, tr *Tree, m *model, slots ...int) {
	t.Helper()
	for _, slot := range slots {
		put(t, tr, m, m.handleAt(slot))
	}
}

// example is the chapter's tree: a and b below the root, c below a.
func example(t *testing.T) (*Tree, *model) {
	t.Helper()
	tr, m := made(t)
	grow(t, tr, m, 0, 0, 1)
	return tr, m
}

// wide is a tree of many nodes, some of them gone, and some in slots that others had before: so that slots do not rise along a path.
func wide(t *testing.T) (*Tree, *model) {
	t.Helper()
	tr, m := made(t)
	grow(t, tr, m, 0, 0, 0, 2, 2, 3, 3, 6, 8, 4, 1, 1)
	remove(t, tr, m, m.handleAt(1))
	grow(t, tr, m, 8, 6)
	remove(t, tr, m, m.handleAt(5))
	grow(t, tr, m, 1, 3, 0)
	return tr, m
}

// deep is a tree as deep as may be, one node a depth: the node at slot n has the depth n.
func deep(t *testing.T) (*Tree, *model) {
	t.Helper()
	tr, m := made(t)
	grow(t, tr, m, 0, 1, 2, 3, 4, 5, 6, 7)
	return tr, m
}

// full is a tree with all slots taken: one as deep as may be, and all others below the root.
func full(t *testing.T) (*Tree, *model) {
	t.Helper()
	tr, m := deep(t)
	for len(m.live()) < maxNodes {
		grow(t, tr, m, 0)
	}
	return tr, m
}

// bare is a tree with the root alone, behind nodes that have gone.
func bare(t *testing.T) (*Tree, *model) {
	t.Helper()
	tr, m := example(t)
	remove(t, tr, m, m.handleAt(1))
	remove(t, tr, m, m.handleAt(2))
	return tr, m
}

// shapes are trees of all sorts.
var shapes = map[string]func(*testing.T) (*Tree, *model){
	"new": made, "example": example, "wide": wide, "deep": deep, "full": full, "bare": bare,
}

// The chapter's examples, in its own numbers.
func TestExamples(t *testing.T) {
	tr := New()
	root := tr.Root()
	under := func(parent, want api.Handle) api.Handle {
		t.Helper()
		h, err := tr.Add(parent)
		if h != want || err != nil {
			t.Fatalf("Add(%d) = %d, %v; want %d", parent, h, err, want)
		}
		return h
	}
	a := under(root, 1099512676353)
	b := under(root, 1099513724929)
	c := under(a, 1099514773505)
	if got := tr.All(); !slices.Equal(got, []api.Handle{root, a, c, b}) {
		t.Errorf("All() = %v", got)
	}
	if got, err := tr.Common(c, b); got != root || err != nil {
		t.Errorf("Common(c, b) = %d, %v", got, err)
	}
	if got, err := tr.Remove(a); !isList(got, err, []api.Handle{a, c}) {
		t.Errorf("Remove(a) = %v, %v", got, err)
	}
	if got := tr.All(); !slices.Equal(got, []api.Handle{root, b}) {
		t.Errorf("All() = %v", got)
	}
	d := under(b, 1099512676354)
	if got, err := tr.Path(d); !isList(got, err, []api.Handle{root, b, d}) {
		t.Errorf("Path(d) = %v, %v", got, err)
	}
	refuses(t, tr, a)
	refuses(t, tr, c)
}

// TR1: New is the root alone: slot 0, generation 1.
func TestNew(t *testing.T) {
	tr, m := made(t)
	if tr.Root() != 1<<40+1 || !slices.Equal(tr.All(), []api.Handle{1<<40 + 1}) {
		t.Errorf("Root() = %d, All() = %v", tr.Root(), tr.All())
	}
	check(t, tr, m)
	checkTheorem(t, tr)
	checkWrong(t, tr, m)
}

// TR1 to TR3: trees of all sorts, held against their models, and asked for what is not there.
func TestShapes(t *testing.T) {
	for name, shape := range shapes {
		t.Run(name, func(t *testing.T) {
			tr, m := shape(t)
			check(t, tr, m)
			checkTheorem(t, tr)
			checkWrong(t, tr, m)
		})
	}
}

// TR1: a node may be as deep as MaxDepth, and none deeper; the depths above have room still.
func TestDepths(t *testing.T) {
	tr, m := deep(t)
	if depth, err := tr.Depth(numberOf(8, 1)); depth != 8 || err != nil {
		t.Errorf("Depth = %d, %v", depth, err)
	}
	if path, err := tr.Path(numberOf(8, 1)); len(path) != 9 || path[0] != rootHandle || path[8] != numberOf(8, 1) || err != nil {
		t.Errorf("Path = %v, %v", path, err)
	}
	for range 3 {
		if h, err := tr.Add(numberOf(8, 1)); h != 0 || err != api.ErrDepth {
			t.Errorf("Add below the deepest = %d, %v", h, err)
		}
		check(t, tr, m)
	}
	for slot := range 8 {
		h := add(t, tr, m, numberOf(slot, 1))
		if h != numberOf(9+slot, 1) {
			t.Errorf("Add below slot %d = %d", slot, h)
		}
		if depth, err := tr.Depth(h); depth != slot+1 || err != nil {
			t.Errorf("Depth(%d) = %d, %v", h, depth, err)
		}
	}
	add(t, tr, m, numberOf(16, 1))
	remove(t, tr, m, numberOf(8, 1))
	add(t, tr, m, numberOf(7, 1))
	add(t, tr, m, numberOf(8, 2))
}

// TR1: there is room for MaxNodes with the root, and again behind a Remove; what is too deep as well is told as that.
func TestRoom(t *testing.T) {
	tr, m := full(t)
	if len(tr.All()) != 64 {
		t.Fatalf("%d nodes", len(tr.All()))
	}
	checkFull := func() {
		t.Helper()
		for _, h := range tr.All() {
			depth, err := tr.Depth(h)
			if err != nil {
				t.Fatal(err)
			}
			want := api.ErrRoom
			if depth == maxDepth {
				want = api.ErrDepth
			}
			if got, err := tr.Add(h); got != 0 || err != want {
				t.Errorf("Add(%d) = %d, %v; want %v", h, got, err, want)
			}
		}
		check(t, tr, m)
		checkWrong(t, tr, m)
	}
	checkFull()
	remove(t, tr, m, numberOf(63, 1))
	if got := add(t, tr, m, numberOf(7, 1)); got != numberOf(63, 2) {
		t.Errorf("Add = %d", got)
	}
	checkFull()
	remove(t, tr, m, numberOf(20, 1))
	if got := add(t, tr, m, numberOf(40, 1)); got != numberOf(20, 2) {
		t.Errorf("Add = %d", got)
	}
	checkFull()
	gone := remove(t, tr, m, numberOf(1, 1))
	if len(gone) != 9 {
		t.Errorf("Remove = %v", gone)
	}
	for range gone {
		add(t, tr, m, rootHandle)
	}
	checkFull()
}

// TR1: whatever is free, the lowest slot is given, with its next generation; slots that come free in the order of All, which rise here, are given in that order.
func TestLowestSlot(t *testing.T) {
	tr, m := made(t)
	grow(t, tr, m, 0, 1, 2, 1, 0, 5)
	gone := remove(t, tr, m, numberOf(1, 1))
	if !slices.Equal(gone, []api.Handle{numberOf(1, 1), numberOf(2, 1), numberOf(3, 1), numberOf(4, 1)}) {
		t.Errorf("Remove = %v", gone)
	}
	for _, h := range gone {
		if got := add(t, tr, m, rootHandle); got != h+1 {
			t.Errorf("Add = %d; want %d", got, h+1)
		}
	}
	if got := add(t, tr, m, rootHandle); got != numberOf(7, 1) {
		t.Errorf("Add = %d", got)
	}
}

// TR1: the lowest slot is given too, where slots came free in another order: one behind the other, and of one part.
func TestLowestSlotBehindHigher(t *testing.T) {
	tr, m := made(t)
	grow(t, tr, m, 0, 0, 0, 0)
	for _, slot := range []int{4, 2, 1} {
		remove(t, tr, m, numberOf(slot, 1))
	}
	for _, want := range []api.Handle{numberOf(1, 2), numberOf(2, 2), numberOf(4, 2), numberOf(5, 1)} {
		if got := add(t, tr, m, numberOf(3, 1)); got != want {
			t.Errorf("Add = %d; want %d", got, want)
		}
	}
	tr, m = made(t)
	grow(t, tr, m, 0, 0, 0)
	remove(t, tr, m, numberOf(1, 1))
	grow(t, tr, m, 3)
	remove(t, tr, m, numberOf(2, 1))
	grow(t, tr, m, 1)
	if gone := remove(t, tr, m, numberOf(3, 1)); !slices.Equal(gone, []api.Handle{numberOf(3, 1), numberOf(1, 2), numberOf(2, 2)}) {
		t.Errorf("Remove = %v", gone)
	}
	for _, want := range []api.Handle{numberOf(1, 3), numberOf(2, 3), numberOf(3, 2)} {
		if got := add(t, tr, m, rootHandle); got != want {
			t.Errorf("Add = %d; want %d", got, want)
		}
	}
}

// useUp takes a slot through all its generations that are left, ahead of which all lower ones are taken, or used up.
func useUp(t *testing.T, tr *Tree, m *model, slot int) {
	t.Helper()
	for m.gens[slot] <= maxGen {
		want := numberOf(slot, m.gens[slot])
		if got := put(t, tr, m, rootHandle); got != want {
			t.Fatalf("Add = %d; want %d", got, want)
		}
		take(t, tr, m, want)
	}
	// What has gone is kept few: all of it is asked for again and again.
	m.gone = m.gone[len(m.gone)-3:]
}

// TR1: a slot whose generations are used up is not given again; the next one is.
func TestUsedUpSlot(t *testing.T) {
	tr, m := made(t)
	useUp(t, tr, m, 1)
	if got := add(t, tr, m, rootHandle); got != numberOf(2, 1) {
		t.Errorf("Add = %d", got)
	}
	useUp(t, tr, m, 3)
	if got := add(t, tr, m, numberOf(2, 1)); got != numberOf(4, 1) {
		t.Errorf("Add = %d", got)
	}
	checkWrong(t, tr, m)
	remove(t, tr, m, numberOf(2, 1))
	if got := add(t, tr, m, rootHandle); got != numberOf(2, 2) {
		t.Errorf("Add = %d", got)
	}
	for len(m.live()) < maxNodes-2 {
		grow(t, tr, m, 2)
	}
	if got, err := tr.Add(rootHandle); got != 0 || err != api.ErrRoom {
		t.Errorf("Add = %d, %v", got, err)
	}
	checkWrong(t, tr, m)
}

// TR1: with all slots used up there is no room, though the root is alone; the last generation of a slot may stand as long as it likes, and what is too deep is told as that.
func TestAllUsedUp(t *testing.T) {
	tr, m := made(t)
	for slot := 1; slot < maxNodes-maxDepth; slot++ {
		useUp(t, tr, m, slot)
	}
	last := rootHandle
	for slot := maxNodes - maxDepth; slot < maxNodes; slot++ {
		for m.gens[slot] < maxGen {
			take(t, tr, m, put(t, tr, m, rootHandle))
		}
		m.gone = nil
		last = add(t, tr, m, last)
		if last != numberOf(slot, maxGen) {
			t.Fatalf("Add = %d", last)
		}
	}
	if got, err := tr.Add(last); got != 0 || err != api.ErrDepth {
		t.Errorf("Add below the deepest = %d, %v", got, err)
	}
	if got, err := tr.Add(rootHandle); got != 0 || err != api.ErrRoom {
		t.Errorf("Add = %d, %v", got, err)
	}
	checkWrong(t, tr, m)
	remove(t, tr, m, numberOf(maxNodes-maxDepth, maxGen))
	for range 3 {
		if got, err := tr.Add(rootHandle); got != 0 || err != api.ErrRoom {
			t.Errorf("Add to the root alone = %d, %v", got, err)
		}
	}
	if !slices.Equal(tr.All(), []api.Handle{rootHandle}) {
		t.Errorf("All() = %v", tr.All())
	}
	checkWrong(t, tr, m)
}

// TR1: the root can't be removed, whatever is below it, and nothing is changed.
func TestRemoveOfRoot(t *testing.T) {
	for name, shape := range shapes {
		t.Run(name, func(t *testing.T) {
			tr, m := shape(t)
			for range 2 {
				if got, err := tr.Remove(rootHandle); len(got) != 0 || err != api.ErrRoot {
					t.Errorf("Remove = %v, %v", got, err)
				}
				check(t, tr, m)
			}
		})
	}
}

// TR1, TR3, TR4: each node of each shape is removed, with just what is below it.
func TestRemoveOfEach(t *testing.T) {
	for name, shape := range shapes {
		t.Run(name, func(t *testing.T) {
			tr, _ := shape(t)
			for _, h := range tr.All() {
				tr, m := shape(t)
				gone := remove(t, tr, m, h)
				if h != rootHandle && gone[0] != h {
					t.Errorf("Remove(%d) = %v", h, gone)
				}
				for _, old := range gone {
					refuses(t, tr, old)
				}
				if len(gone) > 0 {
					checkWrong(t, tr, m)
				}
				for range gone {
					add(t, tr, m, rootHandle)
				}
			}
		})
	}
}

// TR1: of a leaf just itself goes; of a node with many below it they go in the order of All, which isn't that of their slots.
func TestRemoveInOrder(t *testing.T) {
	tr, m := made(t)
	grow(t, tr, m, 0, 0, 1, 1, 2, 3, 3)
	if gone := remove(t, tr, m, numberOf(6, 1)); !slices.Equal(gone, []api.Handle{numberOf(6, 1)}) {
		t.Errorf("Remove of a leaf = %v", gone)
	}
	grow(t, tr, m, 4, 7)
	want := []api.Handle{numberOf(1, 1), numberOf(3, 1), numberOf(7, 1), numberOf(8, 1), numberOf(4, 1), numberOf(6, 2)}
	if gone := remove(t, tr, m, numberOf(1, 1)); !slices.Equal(gone, want) {
		t.Errorf("Remove = %v; want %v", gone, want)
	}
	if all := tr.All(); !slices.Equal(all, []api.Handle{rootHandle, numberOf(2, 1), numberOf(5, 1)}) {
		t.Errorf("All() = %v", all)
	}
	gone := remove(t, tr, m, numberOf(2, 1))
	if !slices.Equal(gone, []api.Handle{numberOf(2, 1), numberOf(5, 1)}) {
		t.Errorf("Remove = %v", gone)
	}
}

// TR2: children stand by rising slots, also where they were made in another order; those of others, and deeper ones, are not among them.
func TestKidsBySlots(t *testing.T) {
	tr, m := made(t)
	grow(t, tr, m, 0, 0, 0, 0)
	remove(t, tr, m, numberOf(1, 1))
	remove(t, tr, m, numberOf(3, 1))
	grow(t, tr, m, 2, 4)
	remove(t, tr, m, numberOf(1, 2))
	add(t, tr, m, numberOf(4, 1))
	if kids, err := tr.Kids(numberOf(4, 1)); !isList(kids, err, []api.Handle{numberOf(1, 3), numberOf(3, 2)}) {
		t.Errorf("Kids = %v, %v", kids, err)
	}
	if kids, err := tr.Kids(numberOf(2, 1)); !isList(kids, err, nil) {
		t.Errorf("Kids = %v, %v", kids, err)
	}
	grow(t, tr, m, 0, 1, 0)
	if kids, err := tr.Kids(rootHandle); !isList(kids, err, []api.Handle{numberOf(2, 1), numberOf(4, 1), numberOf(5, 1), numberOf(7, 1)}) {
		t.Errorf("Kids = %v, %v", kids, err)
	}
	if all := tr.All(); !slices.Equal(all, []api.Handle{
		rootHandle, numberOf(2, 1), numberOf(4, 1), numberOf(1, 3), numberOf(6, 1), numberOf(3, 2), numberOf(5, 1), numberOf(7, 1),
	}) {
		t.Errorf("All() = %v", all)
	}
}

// TR2: Parent, Depth and Path of the root and of a child.
func TestParentDepthPath(t *testing.T) {
	tr, _ := example(t)
	a, c := numberOf(1, 1), numberOf(3, 1)
	for h, want := range map[api.Handle][]api.Handle{rootHandle: {rootHandle}, a: {rootHandle, a}, c: {rootHandle, a, c}} {
		if path, err := tr.Path(h); !isList(path, err, want) {
			t.Errorf("Path(%d) = %v, %v", h, path, err)
		}
		if depth, err := tr.Depth(h); depth != len(want)-1 || err != nil {
			t.Errorf("Depth(%d) = %d, %v", h, depth, err)
		}
	}
	for h, want := range map[api.Handle]api.Handle{rootHandle: 0, a: rootHandle, c: a} {
		if parent, err := tr.Parent(h); parent != want || err != nil {
			t.Errorf("Parent(%d) = %d, %v", h, parent, err)
		}
	}
}

// TR2: Within and Common of a node itself, of one above, of one below, of one beside.
func TestWithinCommon(t *testing.T) {
	tr, _ := wide(t)
	root := rootHandle
	upper, lower, beside := numberOf(3, 1), numberOf(8, 1), numberOf(7, 1)
	cases := []struct {
		a, b   api.Handle
		within bool
		common api.Handle
	}{
		{root, root, true, root}, {upper, upper, true, upper}, {lower, lower, true, lower},
		{lower, root, true, root}, {lower, upper, true, upper}, {upper, root, true, root},
		{root, lower, false, root}, {upper, lower, false, upper}, {root, upper, false, root},
		{lower, beside, false, upper}, {beside, lower, false, upper},
		{lower, numberOf(2, 1), false, root}, {numberOf(4, 1), upper, false, root},
	}
	for _, c := range cases {
		if got, err := tr.Within(c.a, c.b); got != c.within || err != nil {
			t.Errorf("Within(%d, %d) = %v, %v", c.a, c.b, got, err)
		}
		if got, err := tr.Common(c.a, c.b); got != c.common || err != nil {
			t.Errorf("Common(%d, %d) = %d, %v", c.a, c.b, got, err)
		}
	}
}

// P8: each list that is answered is its caller's, its spare room too: neither the tree nor another answer is changed by what is done to it.
func TestAnswersAreNew(t *testing.T) {
	for name, shape := range shapes {
		t.Run(name, func(t *testing.T) {
			tr, m := shape(t)
			for _, h := range tr.All() {
				apart(t, tr.All)
				apart(t, func() []api.Handle { l, _ := tr.Kids(h); return l })
				apart(t, func() []api.Handle { l, _ := tr.Path(h); return l })
			}
			check(t, tr, m)
		})
	}
}

// apart spoils each of two answers in turn: the other one stays, and so does what is answered behind it.
func apart(t *testing.T, call func() []api.Handle) {
	t.Helper()
	first, second := call(), call()
	want := slices.Clone(first)
	spoil(first)
	if !slices.Equal(second, want) || !slices.Equal(call(), want) {
		t.Errorf("%v and %v; want %v", second, call(), want)
	}
	third := call()
	spoil(second)
	if !slices.Equal(third, want) || !slices.Equal(call(), want) {
		t.Errorf("%v and %v; want %v", third, call(), want)
	}
}

// spoil changes all of a list, its spare room too.
func spoil(l []api.Handle) {
	l = l[:cap(l)]
	for i := range l {
		l[i] = -7
	}
}

// P8: what Remove answers is its caller's: the tree isn't changed by what is done to it, nor are answers told before and behind.
func TestRemovedAreNew(t *testing.T) {
	tr, m := wide(t)
	all := tr.All()
	wasAll := slices.Clone(all)
	kids, err := tr.Kids(numberOf(3, 1))
	if err != nil {
		t.Fatal(err)
	}
	wasKids := slices.Clone(kids)
	gone := remove(t, tr, m, numberOf(3, 1))
	wasGone := slices.Clone(gone)
	spoil(tr.All())
	again := remove(t, tr, m, numberOf(2, 1))
	spoil(again)
	if !slices.Equal(all, wasAll) || !slices.Equal(kids, wasKids) || !slices.Equal(gone, wasGone) {
		t.Errorf("%v, %v, %v; want %v, %v, %v", all, kids, gone, wasAll, wasKids, wasGone)
	}
	spoil(gone)
	check(t, tr, m)
	grow(t, tr, m, 0, 1, 2, 0)
	checkWrong(t, tr, m)
}

// P8: trees know nothing of each other; what is told hangs on what was done to a tree alone, not on what was asked of it.
func TestTreesAreAlone(t *testing.T) {
	a, am := example(t)
	b, bm := example(t)
	grow(t, a, am, 1, 2, 3)
	check(t, b, bm)
	remove(t, b, bm, numberOf(1, 1))
	check(t, a, am)
	if got := add(t, New(), modelOf(), rootHandle); got != numberOf(1, 1) {
		t.Errorf("Add = %d", got)
	}
	check(t, a, am)
	checkWrong(t, b, bm)
	quiet, asked := New(), New()
	for range 20 {
		asked.All()
		asked.Add(0)
		asked.Remove(rootHandle)
		asked.Path(rootHandle)
		x, xErr := quiet.Add(rootHandle)
		y, yErr := asked.Add(rootHandle)
		if x != y || xErr != yErr {
			t.Errorf("Add = %d, %v and %d, %v", x, xErr, y, yErr)
		}
	}
}

// TR1 to TR4: all rows of a few calls at the lowest slots, each with the handle that a slot has, or gives next.
func TestAllShortRows(t *testing.T) {
	const calls, slots = 5, 4
	kinds := 2 * slots
	for row := range int(math.Pow(float64(kinds), calls)) {
		tr, m := made(t)
		for n := row; n > 0; n /= kinds {
			slot := n % kinds / 2
			h := m.handleAt(slot)
			if n%2 == 0 {
				put(t, tr, m, h)
			} else {
				take(t, tr, m, h)
			}
		}
		check(t, tr, m)
		checkTheorem(t, tr)
	}
}

// TR1 to TR4: long rows of calls by chance, narrow and deep ones, wide ones, with wrong handles among them.
func TestRows(t *testing.T) {
	for seed := range 18 {
		r := rand.New(rand.NewSource(int64(seed)))
		tr, m := made(t)
		about := 2 + r.Intn(maxNodes)
		for step := range 200 {
			live := m.live()
			h := m.handleAt(live[r.Intn(len(live))])
			if seed%3 == 0 {
				h = m.handleAt(live[len(live)-1])
			}
			if r.Intn(12) == 0 {
				wrong := m.wrong()
				h = wrong[r.Intn(len(wrong))]
			}
			if len(live) >= about && r.Intn(3) > 0 || r.Intn(9) == 0 {
				remove(t, tr, m, h)
			} else {
				add(t, tr, m, h)
			}
			if step%100 == 99 {
				checkWrong(t, tr, m)
			}
		}
	}
}

// P7, TR1 to TR4: whatever is done, each call answers as the model says. A byte tells what is done, the next one to which slot and generation.
func FuzzCalls(f *testing.F) {
	f.Add("")
	f.Add("\x00\x10\x00\x10\x00\x11\x01\x11\x00\x12")
	f.Add("\x00\x10\x00\x11\x00\x12\x00\x13\x00\x14\x00\x15\x00\x16\x00\x17\x00\x18")
	f.Add("\x01\x10\x01\x1f\x00\xff\x00\x00\x02\x10\x02\x00")
	f.Fuzz(func(t *testing.T, calls string) {
		tr, m := made(t)
		for ; len(calls) > 1 && len(m.gone) < 100; calls = calls[2:] {
			h := numberOf(int(calls[1]&15), int(calls[1]>>4))
			switch calls[0] % 3 {
			case 0:
				add(t, tr, m, h)
			case 1:
				remove(t, tr, m, h)
			default:
				if m.slotOf(h) < 0 {
					refuses(t, tr, h)
					refusesPair(t, tr, h, rootHandle)
					refusesPair(t, tr, rootHandle, h)
				}
			}
		}
		check(t, tr, m)
		checkWrong(t, tr, m)
	})
}
