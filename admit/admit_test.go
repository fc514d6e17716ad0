package admit

import (
	"math"
	"math/big"
	"math/rand"
	"slices"
	"testing"

	"tithe/api"
)

// The whole, the last slot and the longest period, as the document writes them.
const (
	whole     = 1048576
	lastSlot  = 63
	maxPeriod = 1048576
)

// edges are numbers at which something might change, wrong ones among them; as slots, as shares and as periods.
var edges = []int{
	math.MinInt, math.MinInt + 1, -1 << 44, -1 << 32, -1048576, -64, -2, -1, 0, 1, 2, 3, 31, 32, 62, 63, 64, 65, 127, 128, 256,
	524287, 524288, 524289, 1048575, 1048576, 1048577, 2097152, 1 << 32, 1<<32 + 1, 1 << 44, math.MaxInt - 1, math.MaxInt,
}

// The chapter's words, with its numbers written out.
func within(n, low, high int) bool { return !(n < low) && !(n > high) }
func slotMay(n int) bool           { return within(n, 0, lastSlot) }
func shareMay(n int) bool          { return within(n, 1, whole) }
func claimMay(c Claim) bool {
	return slotMay(c.Slot) && shareMay(c.Now) && within(c.Next, 0, whole)
}

// count is the larger one of a claim's shares.
func count(c Claim) int {
	if c.Next > c.Now {
		return c.Next
	}
	return c.Now
}

// model is a book by the chapter's words: the claims that are there, by their slots.
type model map[int]Claim

func (m model) counts() int {
	sum := 0
	for _, c := range m {
		sum += count(c)
	}
	return sum
}

// with is the model with a claim in the place of what was at its slot.
func (m model) with(c Claim) model {
	n := model{c.Slot: c}
	for slot, other := range m {
		if slot != c.Slot {
			n[slot] = other
		}
	}
	return n
}

// claims are the model's claims by rising slots.
func (m model) claims() []Claim {
	l := []Claim{}
	for slot := 0; slot <= lastSlot; slot++ {
		if c, there := m[slot]; there {
			l = append(l, c)
		}
	}
	return l
}

// call is a call that may change a book.
type call struct {
	do          string
	slot, share int
}

// answer is what such a call answers.
type answer struct {
	brings int
	err    error
}

// of does the call with a book.
func (c call) of(b *Book) answer {
	switch c.do {
	case "add":
		return answer{err: b.Add(c.slot, c.share)}
	case "resize":
		return answer{err: b.Resize(c.slot, c.share)}
	case "die":
		return answer{err: b.Die(c.slot)}
	}
	brings, err := b.Cross(c.slot)
	return answer{brings, err}
}

// should is what the call should answer of a model's book, and the model behind it.
func (c call) should(m model) (answer, model) {
	was, there := m[c.slot]
	refused := func(err error) (answer, model) { return answer{err: err}, m }
	is := was
	switch c.do {
	case "add":
		if !slotMay(c.slot) {
			return refused(api.ErrArg)
		}
		if there {
			return refused(api.ErrRoom)
		}
		is = Claim{Slot: c.slot, Now: c.share}
	case "resize":
		if !there {
			return refused(api.ErrHandle)
		}
		if was.Dying {
			return refused(api.ErrDying)
		}
		is.Next = c.share
	case "die":
		if !there {
			return refused(api.ErrHandle)
		}
		if was.Dying {
			return refused(api.ErrDying)
		}
		is.Dying = true
		return answer{}, m.with(is)
	case "cross":
		return crossed(m, c.slot)
	}
	if !shareMay(c.share) {
		return refused(api.ErrRange)
	}
	if m.with(is).counts() > whole {
		return refused(api.ErrOverload)
	}
	return answer{}, m.with(is)
}

// crossed is what Cross should answer of a model's book, and the model behind it.
func crossed(m model, slot int) (answer, model) {
	c, there := m[slot]
	if !there {
		return answer{err: api.ErrHandle}, m
	}
	if c.Dying {
		n := m.with(c)
		delete(n, slot)
		return answer{brings: 2}, n
	}
	if c.Next != 0 {
		return answer{brings: 1}, m.with(Claim{Slot: slot, Now: c.Next})
	}
	return answer{}, m
}

// shows holds all that a book tells against a model.
func shows(t *testing.T, b *Book, m model) {
	t.Helper()
	if got := b.List(); !slices.Equal(got, m.claims()) {
		t.Fatalf("List = %v; want %v", got, m.claims())
	}
	if b.Sum() != m.counts() || b.Free() != whole-m.counts() {
		t.Fatalf("of %v: Sum %d, Free %d; want %d", m.claims(), b.Sum(), b.Free(), m.counts())
	}
	for slot := -2; slot <= lastSlot+2; slot++ {
		want, wanted := m[slot]
		if got, there := b.Of(slot); got != want || there != wanted {
			t.Fatalf("Of(%d) = %v, %v; want %v, %v", slot, got, there, want, wanted)
		}
	}
}

// load is a book that must be loaded.
func load(t *testing.T, l ...Claim) *Book {
	t.Helper()
	b, err := Load(l)
	if b == nil || err != nil {
		t.Fatalf("Load(%v) = %v, %v", l, b, err)
	}
	return b
}

// modelOf is the model of claims.
func modelOf(l []Claim) model {
	m := model{}
	for _, c := range l {
		m[c.Slot] = c
	}
	return m
}

// try does a call with a book, and holds the answer and what the book tells behind it against the model.
func try(t *testing.T, b *Book, m model, c call) model {
	t.Helper()
	want, behind := c.should(m)
	if got := c.of(b); got != want {
		t.Fatalf("%v of %v = %v; want %v", c, m.claims(), got, want)
	}
	shows(t, b, behind)
	return behind
}

// step is a call, what it should answer, and what the book should count for behind it.
type step struct {
	do          string
	slot, share int
	brings      int
	err         error
	sum         int
}

// play does calls in a row: beside an error nothing has changed.
func play(t *testing.T, b *Book, steps ...step) {
	t.Helper()
	for i, s := range steps {
		was := b.List()
		c := call{s.do, s.slot, s.share}
		if got := c.of(b); got != (answer{s.brings, s.err}) {
			t.Fatalf("step %d: %v = %v; want %d, %v", i, c, got, s.brings, s.err)
		}
		if b.Sum() != s.sum || b.Free() != whole-s.sum {
			t.Fatalf("step %d: behind %v: Sum %d, Free %d; want %d", i, c, b.Sum(), b.Free(), s.sum)
		}
		if s.err != nil && !slices.Equal(b.List(), was) {
			t.Fatalf("step %d: %v changed %v to %v", i, c, was, b.List())
		}
	}
}

// is tells what must be at a slot.
func is(t *testing.T, b *Book, want Claim) {
	t.Helper()
	if got, there := b.Of(want.Slot); got != want || !there {
		t.Fatalf("Of(%d) = %v, %v; want %v", want.Slot, got, there, want)
	}
}

// books are claims of books of every kind: empty, in part full, just full, dying, with more to come and with less.
func books() [][]Claim {
	return [][]Claim{
		{},
		{{Slot: 0, Now: 1}},
		{{Slot: 63, Now: 1048576}},
		{{Slot: 0, Now: 1048576, Dying: true}},
		{{Slot: 0, Now: 1, Next: 1048576}},
		{{Slot: 0, Now: 1048576, Next: 1}},
		{{Slot: 0, Now: 600000}, {Slot: 1, Now: 448575}},
		{{Slot: 0, Now: 600000}, {Slot: 1, Now: 448576}},
		{{Slot: 0, Now: 600000, Next: 100000}, {Slot: 1, Now: 100000, Next: 300000}, {Slot: 3, Now: 1, Next: 1}},
		{{Slot: 3, Now: 300000, Next: 500000, Dying: true}, {Slot: 32, Now: 262144}, {Slot: 62, Now: 1, Next: 2}, {Slot: 63, Now: 7, Dying: true}},
		alike(64, 1),
		alike(64, 16384),
		alike(63, 16384),
	}
}

// alike are claims of the same share, from slot 0 on.
func alike(many, share int) []Claim {
	var l []Claim
	for slot := range many {
		l = append(l, Claim{Slot: slot, Now: share})
	}
	return l
}

// AD1: a book without claims, and each its own.
func TestNew(t *testing.T) {
	b := New()
	shows(t, b, model{})
	if got := b.Room(5); got != 5 {
		t.Errorf("Room(5) = %d", got)
	}
	play(t, b, step{"add", 0, 7, 0, nil, 7})
	shows(t, New(), model{})
}

// AD1: claims are added at the first slot and at the last, up to the whole and no further; a slot is taken till the Cross that takes its claim away.
func TestAdd(t *testing.T) {
	b := New()
	play(t, b,
		step{"add", 0, 600000, 0, nil, 600000},
		step{"add", 63, 448577, 0, api.ErrOverload, 600000},
		step{"add", 63, 1048576, 0, api.ErrOverload, 600000},
		step{"add", 63, 448575, 0, nil, 1048575},
		step{"add", 1, 2, 0, api.ErrOverload, 1048575},
		step{"add", 1, 1, 0, nil, 1048576},
		step{"add", 2, 1, 0, api.ErrOverload, 1048576},
		step{"add", 0, 1, 0, api.ErrRoom, 1048576},
		step{"cross", 0, 0, 0, nil, 1048576},
		step{"add", 0, 1, 0, api.ErrRoom, 1048576},
		step{"die", 0, 0, 0, nil, 1048576},
		step{"add", 0, 1, 0, api.ErrRoom, 1048576},
		step{"cross", 0, 0, 2, nil, 448576},
		step{"add", 0, 600001, 0, api.ErrOverload, 448576},
		step{"add", 0, 600000, 0, nil, 1048576},
	)
	is(t, b, Claim{Slot: 0, Now: 600000})
	play(t, New(), step{"add", 0, 1048576, 0, nil, 1048576}, step{"add", 1, 1, 0, api.ErrOverload, 1048576})
	play(t, New(), step{"add", 63, 1, 0, nil, 1}, step{"add", 62, 1048575, 0, nil, 1048576})
	// A claim counts with what is to come, where that is more.
	play(t, load(t, Claim{Slot: 0, Now: 10, Next: 1048570}),
		step{"add", 1, 7, 0, api.ErrOverload, 1048570}, step{"add", 1, 6, 0, nil, 1048576})
	play(t, load(t, Claim{Slot: 0, Now: 1048570, Next: 10}),
		step{"add", 1, 7, 0, api.ErrOverload, 1048570}, step{"add", 1, 6, 0, nil, 1048576})
}

// AD1: a slot that is none is told ahead of a wrong share, a slot that is taken ahead of that, and a wrong share ahead of too much.
func TestAddRefuses(t *testing.T) {
	for _, c := range []struct {
		slot, share int
		err         error
	}{
		{-1, 1, api.ErrArg}, {64, 1, api.ErrArg}, {math.MinInt, 1, api.ErrArg}, {math.MaxInt, 1, api.ErrArg},
		{-1, 0, api.ErrArg}, {64, 1048577, api.ErrArg}, {math.MinInt, math.MinInt, api.ErrArg}, {math.MaxInt, math.MaxInt, api.ErrArg},
		{-1, 1048576, api.ErrArg}, {64, 1048576, api.ErrArg},
		{7, 1, api.ErrRoom}, {7, 1048576, api.ErrRoom}, {7, 0, api.ErrRoom}, {7, 1048577, api.ErrRoom}, {7, math.MinInt, api.ErrRoom}, {7, math.MaxInt, api.ErrRoom},
		{0, 0, api.ErrRange}, {63, 0, api.ErrRange}, {63, -1, api.ErrRange}, {63, 1048577, api.ErrRange}, {63, math.MinInt, api.ErrRange}, {63, math.MaxInt, api.ErrRange},
		{0, 1048576, api.ErrOverload}, {63, 1048576, api.ErrOverload}, {0, 1048572, api.ErrOverload},
	} {
		play(t, load(t, Claim{Slot: 7, Now: 5}), step{"add", c.slot, c.share, 0, c.err, 5})
	}
}

// AD2: the share that is to come, whatever was to come before; what only an earlier one had kept is free at once, and what runs stays counted.
func TestResize(t *testing.T) {
	b := load(t, Claim{Slot: 0, Now: 400000}, Claim{Slot: 63, Now: 400000})
	play(t, b,
		step{"resize", 0, 648577, 0, api.ErrOverload, 800000},
		step{"resize", 0, 648576, 0, nil, 1048576}, // just the whole
		step{"resize", 0, 648577, 0, api.ErrOverload, 1048576},
		step{"resize", 63, 400001, 0, api.ErrOverload, 1048576},
		step{"resize", 63, 400000, 0, nil, 1048576},
		step{"resize", 0, 648575, 0, nil, 1048575}, // to less
		step{"resize", 0, 648576, 0, nil, 1048576}, // to more
		step{"resize", 0, 400000, 0, nil, 800000},  // to what runs
		step{"resize", 0, 1, 0, nil, 800000},       // to less than what runs
		step{"resize", 63, 648576, 0, nil, 1048576},
		step{"resize", 63, 1, 0, nil, 800000},
		step{"resize", 0, 648576, 0, nil, 1048576},
		step{"resize", 0, 1048576, 0, api.ErrOverload, 1048576},
	)
	is(t, b, Claim{Slot: 0, Now: 400000, Next: 648576})
	is(t, b, Claim{Slot: 63, Now: 400000, Next: 1})
	play(t, load(t, Claim{Slot: 0, Now: 1}), step{"resize", 0, 1048576, 0, nil, 1048576}, step{"resize", 0, 1, 0, nil, 1})
	// To what runs is a share that is to come, like others.
	b = load(t, Claim{Slot: 5, Now: 300})
	play(t, b, step{"resize", 5, 300, 0, nil, 300})
	is(t, b, Claim{Slot: 5, Now: 300, Next: 300})
	play(t, b, step{"cross", 5, 0, 1, nil, 300})
	is(t, b, Claim{Slot: 5, Now: 300})
}

// AD2: no claim is told ahead of a dying one, that ahead of a wrong share, and that ahead of too much.
func TestResizeRefuses(t *testing.T) {
	for _, c := range []struct {
		slot, share int
		err         error
	}{
		{-1, 1, api.ErrHandle}, {64, 1, api.ErrHandle}, {math.MinInt, 1, api.ErrHandle}, {math.MaxInt, 1, api.ErrHandle}, {0, 1, api.ErrHandle}, {63, 1, api.ErrHandle},
		{-1, 0, api.ErrHandle}, {64, 1048577, api.ErrHandle}, {0, 0, api.ErrHandle}, {63, math.MaxInt, api.ErrHandle}, {63, math.MinInt, api.ErrHandle}, {0, 1048576, api.ErrHandle},
		{8, 1, api.ErrDying}, {8, 5, api.ErrDying}, {8, 9, api.ErrDying}, {8, 0, api.ErrDying}, {8, -1, api.ErrDying}, {8, 1048576, api.ErrDying}, {8, 1048577, api.ErrDying},
		{8, math.MinInt, api.ErrDying}, {8, math.MaxInt, api.ErrDying}, {9, 1, api.ErrDying}, {9, 0, api.ErrDying}, {9, 1048576, api.ErrDying},
		{7, 0, api.ErrRange}, {7, -1, api.ErrRange}, {7, 1048577, api.ErrRange}, {7, math.MinInt, api.ErrRange}, {7, math.MaxInt, api.ErrRange},
		{7, 1048576, api.ErrOverload}, {7, 1048563, api.ErrOverload},
	} {
		b := load(t, Claim{Slot: 7, Now: 5}, Claim{Slot: 8, Now: 5, Next: 9, Dying: true}, Claim{Slot: 9, Now: 5, Dying: true})
		play(t, b, step{"resize", c.slot, c.share, 0, c.err, 19})
		play(t, b, step{"resize", 7, 1048562, 0, nil, 1048576})
	}
}

// AD2: a claim dies once; its shares stay, and stay counted.
func TestDie(t *testing.T) {
	b := load(t, Claim{Slot: 0, Now: 300}, Claim{Slot: 1, Now: 300, Next: 500}, Claim{Slot: 63, Now: 300, Next: 100})
	play(t, b,
		step{"die", 0, 0, 0, nil, 1100},
		step{"die", 0, 0, 0, api.ErrDying, 1100},
		step{"die", 1, 0, 0, nil, 1100},
		step{"die", 1, 0, 0, api.ErrDying, 1100},
		step{"die", 63, 0, 0, nil, 1100},
		step{"die", 63, 0, 0, api.ErrDying, 1100},
		step{"die", 2, 0, 0, api.ErrHandle, 1100},
		step{"die", -1, 0, 0, api.ErrHandle, 1100},
		step{"die", 64, 0, 0, api.ErrHandle, 1100},
		step{"die", math.MinInt, 0, 0, api.ErrHandle, 1100},
		step{"die", math.MaxInt, 0, 0, api.ErrHandle, 1100},
		step{"resize", 0, 300, 0, api.ErrDying, 1100},
	)
	is(t, b, Claim{Slot: 0, Now: 300, Dying: true})
	is(t, b, Claim{Slot: 1, Now: 300, Next: 500, Dying: true})
	is(t, b, Claim{Slot: 63, Now: 300, Next: 100, Dying: true})
	play(t, load(t, Claim{Slot: 9, Now: 1048576}), step{"die", 9, 0, 0, nil, 1048576}, step{"add", 0, 1, 0, api.ErrOverload, 1048576})
}

// AD3: what a boundary brings: the claim goes, whatever was to come; what was to come runs, and nothing is to come; nothing.
func TestCross(t *testing.T) {
	if Stays != 0 || Switched != 1 || Gone != 2 {
		t.Errorf("Stays %d, Switched %d, Gone %d", Stays, Switched, Gone)
	}
	b := load(t, Claim{Slot: 0, Now: 1000}, Claim{Slot: 1, Now: 300, Next: 500}, Claim{Slot: 2, Now: 300, Next: 100},
		Claim{Slot: 62, Now: 40, Dying: true}, Claim{Slot: 63, Now: 30, Next: 50, Dying: true})
	play(t, b,
		step{"cross", 0, 0, 0, nil, 1890},
		step{"cross", 0, 0, 0, nil, 1890},
		step{"cross", 1, 0, 1, nil, 1890},
		step{"cross", 1, 0, 0, nil, 1890},
		step{"cross", 2, 0, 1, nil, 1690},
		step{"cross", 2, 0, 0, nil, 1690},
		step{"cross", 62, 0, 2, nil, 1650},
		step{"cross", 62, 0, 0, api.ErrHandle, 1650},
		step{"cross", 63, 0, 2, nil, 1600},
		step{"cross", 63, 0, 0, api.ErrHandle, 1600},
		step{"cross", 3, 0, 0, api.ErrHandle, 1600},
		step{"cross", -1, 0, 0, api.ErrHandle, 1600},
		step{"cross", 64, 0, 0, api.ErrHandle, 1600},
		step{"cross", math.MinInt, 0, 0, api.ErrHandle, 1600},
		step{"cross", math.MaxInt, 0, 0, api.ErrHandle, 1600},
	)
	is(t, b, Claim{Slot: 0, Now: 1000})
	is(t, b, Claim{Slot: 1, Now: 500})
	is(t, b, Claim{Slot: 2, Now: 100})
	for _, slot := range []int{3, 62, 63} {
		if got, there := b.Of(slot); got != (Claim{}) || there {
			t.Errorf("Of(%d) = %v, %v", slot, got, there)
		}
	}
	// What has gone leaves nothing behind: the next claim at its slot is a new one.
	play(t, b, step{"add", 63, 7, 0, nil, 1607}, step{"cross", 63, 0, 0, nil, 1607}, step{"die", 63, 0, 0, nil, 1607})
}

// share is a reservation's share, by an exact fraction.
func share(q, p int) int {
	n := new(big.Int).Mul(big.NewInt(int64(q)), big.NewInt(whole))
	n.Add(n, big.NewInt(int64(p-1)))
	return int(n.Div(n, big.NewInt(int64(p))).Int64())
}

// AD4: rooms that are told: of an empty book, in part full, just full, and of periods that can't be.
func TestRoom(t *testing.T) {
	empty, third, full, little := []Claim{}, []Claim{{Slot: 0, Now: 699050}}, []Claim{{Slot: 0, Now: 1048576}}, []Claim{{Slot: 0, Now: 1, Next: 1048575}}
	for _, c := range []struct {
		l       []Claim
		p, want int
	}{
		{empty, 1, 1}, {empty, 5, 5}, {empty, 1048575, 1048575}, {empty, 1048576, 1048576},
		{empty, 0, 0}, {empty, -1, 0}, {empty, 1048577, 0}, {empty, math.MinInt, 0}, {empty, math.MaxInt, 0},
		{third, 1, 0}, {third, 2, 0}, {third, 3, 1}, {third, 4, 1}, {third, 6, 2}, {third, 1000000, 333333}, {third, 1048576, 349526},
		{third, 0, 0}, {third, -3, 0}, {third, 1048577, 0}, {third, math.MinInt, 0}, {third, math.MaxInt, 0},
		{[]Claim{{Slot: 0, Now: 699051}}, 3, 0}, {[]Claim{{Slot: 0, Now: 699051, Dying: true}}, 3, 0}, {[]Claim{{Slot: 0, Now: 699051, Next: 1}}, 3, 0},
		{little, 1, 0}, {little, 1048575, 0}, {little, 1048576, 1}, {little, 1048577, 0}, {little, 0, 0},
		{full, 1, 0}, {full, 3, 0}, {full, 1048575, 0}, {full, 1048576, 0}, {full, 1048577, 0}, {full, 0, 0}, {full, math.MinInt, 0}, {full, math.MaxInt, 0},
	} {
		if got := load(t, c.l...).Room(c.p); got != c.want {
			t.Errorf("of %v: Room(%d) = %d; want %d", c.l, c.p, got, c.want)
		}
	}
}

// AD4: Add takes the share of that reservation, and of no greater one.
func TestRoomIsGreatest(t *testing.T) {
	for _, l := range books() {
		b := load(t, l...)
		for _, p := range append([]int{4, 5, 6, 7, 1000, 333333, 1000000}, edges...) {
			got := b.Room(p)
			if !within(p, 1, maxPeriod) {
				if got != 0 {
					t.Errorf("of %v: Room(%d) = %d", l, p, got)
				}
				continue
			}
			if !within(got, 0, p) {
				t.Fatalf("of %v: Room(%d) = %d", l, p, got)
			}
			if len(l) <= lastSlot {
				addsJust(t, b, p, got)
			}
		}
		shows(t, b, modelOf(l))
	}
}

// addsJust holds a room against Add: q in p is taken at a free slot, and one tick more is not.
func addsJust(t *testing.T, b *Book, p, q int) {
	t.Helper()
	free := 0
	for _, there := b.Of(free); there; _, there = b.Of(free) {
		free++
	}
	if q > 0 {
		if err := b.Twin().Add(free, share(q, p)); err != nil {
			t.Errorf("of %v: Room(%d) = %d: %v", b.List(), p, q, err)
		}
	}
	if q < p {
		if err := b.Twin().Add(free, share(q+1, p)); err != api.ErrOverload {
			t.Errorf("of %v: Room(%d) = %d: one more: %v", b.List(), p, q, err)
		}
	}
}

// AD4: with no slot free Room is that of a book of as much, but with a free slot.
func TestRoomWithoutSlot(t *testing.T) {
	for _, each := range []int{1, 7, 16383, 16384} {
		taken := load(t, alike(64, each)...)
		other := alike(63, each)
		other[5].Next = 2 * each
		free := load(t, other...)
		if taken.Free() != whole-64*each || free.Free() != taken.Free() {
			t.Fatalf("Free: %d, %d", taken.Free(), free.Free())
		}
		for _, p := range append([]int{5, 1000, 333333}, edges...) {
			got := taken.Room(p)
			if got != free.Room(p) {
				t.Errorf("64 times %d: Room(%d) = %d; want %d", each, p, got, free.Room(p))
			}
			if within(p, 1, maxPeriod) {
				addsJust(t, free, p, got)
			}
		}
	}
	if got := load(t, alike(64, 1)...).Room(2); got != 1 {
		t.Errorf("Room(2) = %d", got)
	}
}

// AD4: what is at a slot, and what is at none.
func TestOf(t *testing.T) {
	for _, l := range books() {
		b, m := load(t, l...), modelOf(l)
		for _, slot := range edges {
			want, wanted := m[slot]
			if got, there := b.Of(slot); got != want || there != wanted {
				t.Errorf("of %v: Of(%d) = %v, %v; want %v, %v", l, slot, got, there, want, wanted)
			}
		}
		shows(t, b, m)
	}
}

// AD4: claims by rising slots, in whatever order they came; the list is the caller's own, its spare room too.
func TestList(t *testing.T) {
	b := New()
	for i, slot := range []int{31, 63, 0, 62, 1, 32} {
		if err := b.Add(slot, i+1); err != nil {
			t.Fatal(err)
		}
	}
	want := []Claim{{Slot: 0, Now: 3}, {Slot: 1, Now: 5}, {Slot: 31, Now: 1}, {Slot: 32, Now: 6}, {Slot: 62, Now: 4}, {Slot: 63, Now: 2}}
	shows(t, b, modelOf(want))
	first, second := b.List(), b.List()
	for i := range first {
		first[i] = Claim{Slot: 9, Now: 9, Next: 9, Dying: true}
	}
	for i, spare := len(first), first[:cap(first)]; i < len(spare); i++ {
		spare[i] = Claim{Slot: 9, Now: 9}
	}
	if !slices.Equal(second, want) || !slices.Equal(b.List(), want) {
		t.Errorf("changed by another list: %v, %v", second, b.List())
	}
	shows(t, b, modelOf(want))
}

// AD4: a twin goes on alike, and by itself.
func TestTwin(t *testing.T) {
	for _, l := range books() {
		for _, c := range rowOfCalls() {
			b, m := load(t, l...), modelOf(l)
			twin := b.Twin()
			if twin == b {
				t.Fatalf("of %v: the twin is the book itself", l)
			}
			shows(t, twin, m)
			behind := try(t, twin, m, c)
			shows(t, b, m)
			third := b.Twin()
			try(t, b, m, c)
			shows(t, twin, behind)
			shows(t, third, m)
		}
	}
}

// rowOfCalls are calls of all kinds, at slots where books have claims and where they have none.
func rowOfCalls() []call {
	var l []call
	for _, slot := range []int{0, 1, 3, 62, 63} {
		l = append(l, call{do: "die", slot: slot}, call{do: "cross", slot: slot})
		for _, share := range []int{1, 2, 16384, 100000, 1048576} {
			l = append(l, call{"add", slot, share}, call{"resize", slot, share})
		}
	}
	return l
}

// AD5: claims that may be, each kind that may not, and slots that do not rise; of two faults the first claim's, of one claim's the one that is named first, and that they count for too much last.
func TestLoad(t *testing.T) {
	fine, wrong := Claim{Slot: 7, Now: 5}, Claim{Slot: 9, Now: 0}
	all, half, more := Claim{Slot: 0, Now: 1048576}, Claim{Slot: 8, Now: 524288}, Claim{Slot: 9, Now: 524289}
	for _, c := range []struct {
		l   []Claim
		err error
	}{
		{nil, nil}, {[]Claim{}, nil}, {[]Claim{fine}, nil},
		{[]Claim{{Slot: 0, Now: 1}, {Slot: 63, Now: 1048575}}, nil},
		{[]Claim{{Slot: 0, Now: 1, Next: 1048576, Dying: true}}, nil},
		{[]Claim{{Slot: 63, Now: 1048576, Next: 1048576}}, nil},
		{[]Claim{half, {Slot: 9, Now: 1, Next: 524288}}, nil},
		{[]Claim{half, {Slot: 9, Now: 524288, Next: 1}}, nil},
		{alike(64, 16384), nil},
		{[]Claim{{}}, api.ErrArg},
		{[]Claim{{Slot: -1, Now: 5}}, api.ErrArg}, {[]Claim{{Slot: 64, Now: 5}}, api.ErrArg},
		{[]Claim{{Slot: 7, Now: 0}}, api.ErrArg}, {[]Claim{{Slot: 7, Now: -1}}, api.ErrArg}, {[]Claim{{Slot: 7, Now: 1048577}}, api.ErrArg},
		{[]Claim{{Slot: 7, Now: 0, Next: 5}}, api.ErrArg}, {[]Claim{{Slot: 7, Dying: true}}, api.ErrArg},
		{[]Claim{{Slot: 7, Now: 5, Next: -1}}, api.ErrArg}, {[]Claim{{Slot: 7, Now: 5, Next: 1048577}}, api.ErrArg},
		{[]Claim{{Slot: 7, Now: 5, Next: math.MinInt}}, api.ErrArg}, {[]Claim{{Slot: 7, Now: 5, Next: math.MaxInt, Dying: true}}, api.ErrArg},
		{[]Claim{fine, fine}, api.ErrState}, {[]Claim{half, fine}, api.ErrState}, {[]Claim{{Slot: 0, Now: 1}, {Slot: 0, Now: 1}}, api.ErrState},
		{[]Claim{{Slot: 63, Now: 1}, {Slot: 0, Now: 1}}, api.ErrState}, {[]Claim{{Slot: 1, Now: 1}, {Slot: 3, Now: 1}, {Slot: 2, Now: 1}}, api.ErrState},
		{[]Claim{half, more}, api.ErrState}, {[]Claim{all, fine}, api.ErrState}, {[]Claim{all, {Slot: 1, Now: 1}}, api.ErrState},
		{[]Claim{half, {Slot: 9, Now: 1, Next: 524289}}, api.ErrState}, {[]Claim{half, {Slot: 9, Now: 524289, Next: 1}}, api.ErrState},
		{alike(64, 16385), api.ErrState}, {alike(64, 1048576), api.ErrState}, {append(alike(64, 1), Claim{Slot: 63, Now: 1}), api.ErrState},
		{append(alike(64, 1), Claim{Slot: 64, Now: 1}), api.ErrArg},
		{[]Claim{fine, fine, wrong}, api.ErrState}, {[]Claim{wrong, fine, fine}, api.ErrArg}, {[]Claim{half, wrong, fine}, api.ErrArg},
		{[]Claim{fine, {Slot: 7, Now: 0}}, api.ErrArg}, {[]Claim{fine, {Slot: 6, Now: 5, Next: -1}}, api.ErrArg}, {[]Claim{fine, {Slot: -1, Now: 5}}, api.ErrArg},
		{[]Claim{half, more, wrong}, api.ErrArg}, {[]Claim{half, more, {Slot: 10, Now: 5, Next: -1}}, api.ErrArg}, {[]Claim{half, more, {Slot: 64, Now: 5}}, api.ErrArg},
		{[]Claim{all, {Slot: 1, Now: 1048576}, {Slot: 1, Now: 1}}, api.ErrState},
		{[]Claim{half, more, fine, wrong}, api.ErrState},
	} {
		was := slices.Clone(c.l)
		b, err := Load(c.l)
		if err != c.err || (b == nil) != (err != nil) {
			t.Fatalf("Load(%v) = %v, %v; want %v", c.l, b, err, c.err)
		}
		if !slices.Equal(c.l, was) {
			t.Errorf("Load(%v) made it %v", was, c.l)
		}
		if err == nil {
			shows(t, b, modelOf(c.l))
		}
	}
}

// AD5: a claim may be just by the chapter's words, whatever its numbers.
func TestLoadOfEdges(t *testing.T) {
	for _, slot := range edges {
		for _, now := range edges {
			for _, next := range edges {
				for _, dying := range []bool{false, true} {
					c := Claim{slot, now, next, dying}
					b, err := Load([]Claim{c})
					if claimMay(c) {
						if err != nil {
							t.Fatalf("Load of %v: %v", c, err)
						}
						is(t, b, c)
					} else if b != nil || err != api.ErrArg {
						t.Fatalf("Load of %v = %v, %v", c, b, err)
					}
				}
			}
		}
	}
}

// AD5, P8: a list that was loaded is neither kept nor changed by what is done with the book.
func TestLoadKeepsNothing(t *testing.T) {
	l := []Claim{{Slot: 1, Now: 5}, {Slot: 2, Now: 5, Next: 7}, {Slot: 3, Now: 9}}
	b := load(t, l[:2]...)
	play(t, b, step{"resize", 1, 6, 0, nil, 13}, step{"die", 2, 0, 0, nil, 13}, step{"add", 3, 1, 0, nil, 14}, step{"cross", 2, 0, 2, nil, 7})
	if !slices.Equal(l, []Claim{{Slot: 1, Now: 5}, {Slot: 2, Now: 5, Next: 7}, {Slot: 3, Now: 9}}) {
		t.Errorf("the list is %v now", l)
	}
	clear(l)
	shows(t, b, model{1: {Slot: 1, Now: 5, Next: 6}, 3: {Slot: 3, Now: 1}})
}

// AD5: a nil book: ErrNone ahead of all else, and nothing.
func TestNil(t *testing.T) {
	var b *Book
	for _, slot := range edges {
		for _, share := range edges {
			for _, do := range []string{"add", "resize", "die", "cross"} {
				if got := (call{do, slot, share}).of(b); got != (answer{err: api.ErrNone}) {
					t.Fatalf("%s(%d, %d) = %v", do, slot, share, got)
				}
			}
		}
		if got := b.Room(slot); got != 0 {
			t.Errorf("Room(%d) = %d", slot, got)
		}
		if got, there := b.Of(slot); got != (Claim{}) || there {
			t.Errorf("Of(%d) = %v, %v", slot, got, there)
		}
	}
	if b.Sum() != 0 || b.Free() != 0 || len(b.List()) != 0 || b.Twin() != nil {
		t.Errorf("%d, %d, %v, %v", b.Sum(), b.Free(), b.List(), b.Twin())
	}
}

// AD1 to AD3: the chapter's example.
func TestExamples(t *testing.T) {
	b := New()
	play(t, b,
		step{"add", 0, 600000, 0, nil, 600000},
		step{"add", 1, 500000, 0, api.ErrOverload, 600000},
		step{"resize", 0, 100000, 0, nil, 600000},
		step{"cross", 0, 0, 1, nil, 100000},
	)
}

// AD6: too much is told just where Sum with what is asked would be above the whole; what dies, or shrinks, stays counted up to Cross, and is free from there on.
func TestFreeFromCross(t *testing.T) {
	for _, end := range []step{{"die", 0, 0, 0, nil, 1048576}, {"resize", 0, 400000, 0, nil, 1048576}} {
		b := load(t, Claim{Slot: 0, Now: 700000}, Claim{Slot: 1, Now: 300000}, Claim{Slot: 9, Now: 48576})
		play(t, b, end)
		freed := 300000
		brings := 1
		if end.do == "die" {
			freed, brings = 700000, 2
		}
		play(t, b,
			step{"add", 2, 1, 0, api.ErrOverload, 1048576},
			step{"resize", 1, 300001, 0, api.ErrOverload, 1048576},
			step{"cross", 1, 0, 0, nil, 1048576},
			step{"add", 2, 1, 0, api.ErrOverload, 1048576},
			step{"cross", 0, 0, brings, nil, 1048576 - freed},
			step{"add", 2, freed + 1, 0, api.ErrOverload, 1048576 - freed},
			step{"resize", 1, 300001 + freed, 0, api.ErrOverload, 1048576 - freed},
			step{"resize", 1, 300000 + freed, 0, nil, 1048576},
			step{"resize", 1, 1, 0, nil, 1048576 - freed},
			step{"add", 2, freed, 0, nil, 1048576},
		)
	}
}

// AD1 to AD6: every book of claims at two slots, of shares at which something might change, and every call of each: answers and what is there behind them are as the chapter's words say. Books that are loaded go on like those that calls have made.
func TestAllOfTwoSlots(t *testing.T) {
	shares := []int{1, 2, 524287, 524288, 524289, 1048575, 1048576}
	slots := []int{0, 63}
	var calls []call
	for _, slot := range []int{math.MinInt, -1, 0, 1, 63, 64, math.MaxInt} {
		calls = append(calls, call{do: "die", slot: slot}, call{do: "cross", slot: slot})
		for _, share := range append([]int{math.MinInt, -1, 0, 1048577, math.MaxInt}, shares...) {
			calls = append(calls, call{"add", slot, share}, call{"resize", slot, share})
		}
	}
	for _, first := range claimsAt(slots[0], shares) {
		for _, second := range claimsAt(slots[1], shares) {
			l := slices.Concat(first, second)
			if modelOf(l).counts() > whole {
				if b, err := Load(l); b != nil || err != api.ErrState {
					t.Fatalf("Load(%v) = %v, %v", l, b, err)
				}
				continue
			}
			b := load(t, l...)
			for _, c := range calls {
				twin := b.Twin()
				want, behind := c.should(modelOf(l))
				if got := c.of(twin); got != want || !slices.Equal(twin.List(), behind.claims()) || twin.Sum() != behind.counts() {
					t.Fatalf("%v of %v = %v, %v; want %v, %v", c, l, got, twin.List(), want, behind.claims())
				}
			}
			shows(t, b, modelOf(l))
		}
	}
}

// claimsAt are all lists of one claim at a slot, of shares, and the list of none.
func claimsAt(slot int, shares []int) [][]Claim {
	all := [][]Claim{nil}
	for _, now := range shares {
		for _, next := range append([]int{0}, shares...) {
			for _, dying := range []bool{false, true} {
				all = append(all, []Claim{{slot, now, next, dying}})
			}
		}
	}
	return all
}

// AD6: rows of all calls, by chance, of many claims that are small and of few that are great: no sum above the whole, too much told just where the chapter says, and what is loaded from List, and a twin, going on alike.
func TestRows(t *testing.T) {
	chance := rand.New(rand.NewSource(8))
	for n := range 600 {
		r := row{b: New(), m: model{}, slots: []int{2, 5, 64, 66}[n%4], most: []int{whole + 1, 600000, 60000, 20000}[n/4%4]}
		for range 200 {
			r.step(t, chance)
		}
	}
}

// row is a book's life beside the model, at so many slots, with shares up to the most.
type row struct {
	b           *Book
	m           model
	slots, most int
}

// step does a call, or goes on with a book that should be alike.
func (r *row) step(t *testing.T, chance *rand.Rand) {
	t.Helper()
	c := call{slot: chance.Intn(r.slots)}
	if r.slots > lastSlot+1 {
		c.slot-- // one beyond the slots at each end
	}
	switch chance.Intn(10) {
	case 0, 1, 2:
		c.do, c.share = "add", chance.Intn(r.most+1)
	case 3, 4:
		c.do, c.share = "resize", chance.Intn(r.most+1)
	case 5:
		c.do, c.share = "add", r.b.Free()+chance.Intn(3)-1
	case 6:
		c.do, c.share = "resize", r.b.Free()+count(r.m[c.slot])+chance.Intn(3)-1
	case 7:
		c.do = "die"
	case 8:
		c.do = "cross"
	default:
		r.again(t, chance.Intn(2) == 0)
		return
	}
	was := r.b.Sum()
	r.m = try(t, r.b, r.m, c)
	if r.b.Sum() > whole {
		t.Fatalf("behind %v: Sum %d", c, r.b.Sum())
	}
	if r.b.Sum() < was && c.do != "cross" && c.do != "resize" {
		t.Fatalf("%v: Sum sinks from %d to %d", c, was, r.b.Sum())
	}
}

// again goes on with what List answered, loaded, or with a twin.
func (r *row) again(t *testing.T, loaded bool) {
	t.Helper()
	if loaded {
		r.b = load(t, r.b.List()...)
	} else {
		r.b = r.b.Twin()
	}
	shows(t, r.b, r.m)
}
