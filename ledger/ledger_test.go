package ledger

import (
	"math"
	"math/rand"
	"slices"
	"testing"

	"tithe/api"
)

// What the document writes: the greatest number of ticks, and the marks of jobs that were done and cut.
const (
	mostTicks = 1073741824
	markDone  = 8
	markCut   = 9
)

// Handles of the tests: any number but 0 may be one.
const (
	root = api.Handle(1099511627777)
	a    = api.Handle(1099512676353)
	b    = api.Handle(1099513724929)
	c    = api.Handle(1099514773505)
	d    = api.Handle(-7)
	e    = api.Handle(math.MaxInt)
)

// strangers are numbers that the tests open no account by, unless they say so: none, the ends of their numbers, and such that would be one of the tests' handles, if cut off, shifted or turned about.
var strangers = []api.Handle{
	0, 1, -1, 2, 7, 1 << 31, 1 << 32, -1 << 31, math.MinInt, math.MinInt + 1, math.MaxInt - 1,
	root - 1, root + 1, -root, root + math.MinInt, a - 1, a + 1, -a, b ^ 1<<62, c & 0xffffffff,
}

// edges are numbers at the ends of what an account's may be, and of the ints.
var edges = []int{
	math.MinInt, math.MinInt + 1, -1 << 32, -mostTicks, -2, -1, 0, 1, 2, mostTicks - 1, mostTicks, mostTicks + 1, 2 * mostTicks,
	1<<32 - 1, 1 << 32, 1<<32 + 1, 1 << 62, math.MaxInt - 1, math.MaxInt,
}

// fields are an account's six numbers, each to be read and written.
var fields = map[string]func(*api.Account) *int{
	"Given": func(x *api.Account) *int { return &x.Given },
	"Own":   func(x *api.Account) *int { return &x.Own },
	"Lent":  func(x *api.Account) *int { return &x.Lent },
	"Done":  func(x *api.Account) *int { return &x.Done },
	"Cut":   func(x *api.Account) *int { return &x.Cut },
	"Late":  func(x *api.Account) *int { return &x.Late },
}

// with is an account with one number changed.
func with(x api.Account, field string, n int) api.Account {
	*fields[field](&x) = n
	return x
}

// mayBe tells whether an account may be.
func mayBe(x api.Account) bool {
	for _, field := range fields {
		if n := *field(&x); n < 0 || n > mostTicks {
			return false
		}
	}
	return true
}

// sheet is an account in a model.
type sheet struct {
	h, parent   api.Handle
	acc, closed api.Account
}

// model is what a book must be like: the open accounts one behind the other as they were opened, the root's first.
type model struct{ sheets []sheet }

// modelOf is the model of a new book.
func modelOf(root api.Handle) *model { return &model{[]sheet{{h: root}}} }

// twin is a model of its own, the same.
func (m *model) twin() *model { return &model{slices.Clone(m.sheets)} }

// at is an open account; nil: it is not open.
func (m *model) at(h api.Handle) *sheet {
	for i := range m.sheets {
		if m.sheets[i].h == h {
			return &m.sheets[i]
		}
	}
	return nil
}

// handles are those of all open accounts.
func (m *model) handles() []api.Handle {
	l := []api.Handle{}
	for _, s := range m.sheets {
		l = append(l, s.h)
	}
	return l
}

// kids are the handles of the open children.
func (m *model) kids(h api.Handle) []api.Handle {
	l := []api.Handle{}
	for _, s := range m.sheets[1:] {
		if s.parent == h {
			l = append(l, s.h)
		}
	}
	return l
}

// path leads from the root to an open account.
func (m *model) path(h api.Handle) []api.Handle {
	l := []api.Handle{h}
	for l[0] != m.sheets[0].h {
		l = slices.Concat([]api.Handle{m.at(l[0]).parent}, l)
	}
	return l
}

// open is what Open must answer.
func (m *model) open(h, parent api.Handle) error {
	if h == 0 || m.at(parent) == nil {
		return api.ErrHandle
	}
	if m.at(h) != nil {
		return api.ErrName
	}
	m.sheets = append(m.sheets, sheet{h: h, parent: parent})
	return nil
}

// isPath tells whether a list is the path of an open account.
func (m *model) isPath(path []api.Handle) bool {
	if len(path) == 0 || m.at(path[len(path)-1]) == nil {
		return false
	}
	return slices.Equal(path, m.path(path[len(path)-1]))
}

// charge is what Charge must answer.
func (m *model) charge(path []api.Handle, lent bool) error {
	if !m.isPath(path) {
		return api.ErrHandle
	}
	if m.sheets[0].acc.Given == mostTicks {
		return api.ErrOverflow
	}
	for _, h := range path {
		m.at(h).acc.Given++
	}
	own := &m.at(path[len(path)-1]).acc
	own.Own++
	if lent {
		own.Lent++
	}
	return nil
}

// note is what Note must answer.
func (m *model) note(h api.Handle, kind int, late bool) error {
	s := m.at(h)
	switch {
	case s == nil:
		return api.ErrHandle
	case kind != markDone && kind != markCut:
		return api.ErrArg
	case kind == markDone && s.acc.Done == mostTicks, kind == markCut && s.acc.Cut == mostTicks:
		return api.ErrOverflow
	case kind == markDone:
		s.acc.Done++
	case kind == markCut:
		s.acc.Cut++
	}
	if late {
		s.acc.Late++
	}
	return nil
}

// close is what Close must answer.
func (m *model) close(h api.Handle) error {
	s := m.at(h)
	switch {
	case s == nil:
		return api.ErrHandle
	case h == m.sheets[0].h:
		return api.ErrRoot
	case len(m.kids(h)) > 0:
		return api.ErrArg
	}
	up := &m.at(s.parent).closed
	up.Given += s.acc.Given
	up.Own += s.acc.Own + s.closed.Own
	up.Lent += s.acc.Lent + s.closed.Lent
	up.Done += s.acc.Done + s.closed.Done
	up.Cut += s.acc.Cut + s.closed.Cut
	up.Late += s.acc.Late + s.closed.Late
	m.sheets = slices.DeleteFunc(m.sheets, func(s sheet) bool { return s.h == h })
	return nil
}

// load is what Load must answer.
func (m *model) load(h api.Handle, x, closed api.Account) error {
	s := m.at(h)
	if s == nil {
		return api.ErrHandle
	}
	if !mayBe(x) || !mayBe(closed) {
		return api.ErrArg
	}
	s.acc, s.closed = x, closed
	return nil
}

// even is what Even must answer.
func (m *model) even() bool {
	for _, s := range m.sheets {
		given := s.acc.Own + s.closed.Given
		for _, kid := range m.kids(s.h) {
			given += m.at(kid).acc.Given
		}
		if s.acc.Given != given || s.acc.Lent > s.acc.Own || s.closed.Own != s.closed.Given {
			return false
		}
	}
	return true
}

// check holds all that a book tells against a model: of all accounts that are open, and of handles that may be open or not.
func check(t *testing.T, book *Book, m *model, others ...api.Handle) {
	t.Helper()
	for _, s := range m.sheets {
		if acc, closed, err := book.Of(s.h); acc != s.acc || closed != s.closed || err != nil {
			t.Fatalf("Of(%d) = %v, %v, %v; want %v, %v", s.h, acc, closed, err, s.acc, s.closed)
		}
	}
	for _, h := range others {
		if m.at(h) != nil {
			continue
		}
		if acc, closed, err := book.Of(h); acc != (api.Account{}) || closed != (api.Account{}) || err != api.ErrHandle {
			t.Fatalf("Of(%d) = %v, %v, %v; it is not open", h, acc, closed, err)
		}
	}
	if got, want := book.Even(), m.even(); got != want {
		t.Fatalf("Even() = %v; want %v: %v", got, want, m.sheets)
	}
}

// pair is a book and the model that it is held against, call by call.
type pair struct {
	t    *testing.T
	book *Book
	m    *model
}

// made is a pair of a new book.
func made(t *testing.T, root api.Handle) *pair {
	t.Helper()
	p := &pair{t, New(root), modelOf(root)}
	if p.book == nil {
		t.Fatalf("New(%d) is nil", root)
	}
	p.check()
	return p
}

// check holds the book against the model, at all handles of the tests too.
func (p *pair) check() {
	p.t.Helper()
	check(p.t, p.book, p.m, root, a, b, c, d, e, 0, -1)
}

// clone is a pair of its own, of the book's Clone.
func (p *pair) clone() *pair {
	p.t.Helper()
	other := &pair{p.t, p.book.Clone(), p.m.twin()}
	other.check()
	return other
}

func (p *pair) open(h, parent api.Handle) error {
	p.t.Helper()
	err := p.book.Open(h, parent)
	if want := p.m.open(h, parent); err != want {
		p.t.Fatalf("Open(%d, %d): %v; want %v", h, parent, err, want)
	}
	p.check()
	return err
}

func (p *pair) charge(lent bool, path ...api.Handle) error {
	p.t.Helper()
	was := slices.Clone(path)
	err := p.book.Charge(path, lent)
	if want := p.m.charge(was, lent); err != want {
		p.t.Fatalf("Charge(%v, %v): %v; want %v", was, lent, err, want)
	}
	if !slices.Equal(path, was) {
		p.t.Fatalf("Charge(%v, %v) has made %v of the path", was, lent, path)
	}
	p.check()
	return err
}

func (p *pair) note(h api.Handle, kind int, late bool) error {
	p.t.Helper()
	err := p.book.Note(h, kind, late)
	if want := p.m.note(h, kind, late); err != want {
		p.t.Fatalf("Note(%d, %d, %v): %v; want %v", h, kind, late, err, want)
	}
	p.check()
	return err
}

func (p *pair) close(h api.Handle) error {
	p.t.Helper()
	err := p.book.Close(h)
	if want := p.m.close(h); err != want {
		p.t.Fatalf("Close(%d): %v; want %v", h, err, want)
	}
	p.check()
	return err
}

func (p *pair) load(h api.Handle, x, closed api.Account) error {
	p.t.Helper()
	err := p.book.Load(h, x, closed)
	if want := p.m.load(h, x, closed); err != want {
		p.t.Fatalf("Load(%d, %v, %v): %v; want %v", h, x, closed, err, want)
	}
	p.check()
	return err
}

// is holds an account, and what was closed below it, against numbers that a test writes out.
func (p *pair) is(h api.Handle, acc, closed api.Account) {
	p.t.Helper()
	if got, gotClosed, err := p.book.Of(h); got != acc || gotClosed != closed || err != nil {
		p.t.Errorf("Of(%d) = %v, %v, %v; want %v, %v", h, got, gotClosed, err, acc, closed)
	}
}

// fine holds errors of calls that must go against none.
func (p *pair) fine(errs ...error) {
	p.t.Helper()
	for place, err := range errs {
		if err != nil {
			p.t.Fatalf("the call %d: %v", place, err)
		}
	}
}

// answers holds a call's error against the one that a test writes out.
func answers(t *testing.T, what string, got, want error) {
	t.Helper()
	if got != want {
		t.Errorf("%s: %v; want %v", what, got, want)
	}
}

// row is a book of the root, a below it, b below a, c below b, and of d below the root.
func row(t *testing.T) *pair {
	t.Helper()
	p := made(t, root)
	p.fine(p.open(a, root), p.open(b, a), p.open(c, b), p.open(d, root))
	return p
}

// busy is such a book with ticks, own, lent and passed on, with jobs of all sorts, and with some that was closed below a, below b and below the root.
func busy(t *testing.T) *pair {
	t.Helper()
	p := row(t)
	for i, h := range []api.Handle{root, a, b, c, d, c, b, c, a, c, c, d, d} {
		p.fine(p.charge(i%3 == 1, p.m.path(h)...), p.note(h, markDone+i%2, i%4 == 3))
	}
	for i, parent := range []api.Handle{a, b, root, b} {
		p.fine(p.open(e, parent))
		for j := range i + 2 {
			p.fine(p.charge(j%2 == 0, p.m.path(e)...), p.note(e, markDone+j%2, j%3 == 1))
		}
		p.fine(p.close(e))
	}
	return p
}

// starts are pairs of many sorts to begin with.
func starts(t *testing.T) map[string]*pair {
	t.Helper()
	charged := made(t, root)
	charged.fine(charged.charge(false, root), charged.charge(true, root))
	wide := made(t, root)
	wide.fine(wide.open(a, root), wide.open(b, root), wide.open(c, root), wide.charge(false, root, b))
	bare := row(t)
	bare.fine(bare.charge(true, root, a, b, c), bare.close(c), bare.close(b), bare.close(a), bare.close(d))
	uneven := row(t)
	uneven.fine(uneven.load(b, api.Account{Given: 9, Own: 2, Lent: 3, Done: 1, Cut: 7, Late: 5}, api.Account{Given: 4, Own: 3, Late: 2}))
	full := row(t)
	most := api.Account{Given: mostTicks, Own: mostTicks, Lent: mostTicks, Done: mostTicks, Cut: mostTicks, Late: mostTicks}
	for _, h := range full.m.handles() {
		full.fine(full.load(h, most, most))
	}
	return map[string]*pair{
		"new": made(t, root), "charged": charged, "wide": wide, "row": row(t), "busy": busy(t), "bare": bare, "uneven": uneven, "full": full,
	}
}

// The calls have the forms that the chapter lists.
var (
	_ func(api.Handle) *Book                                    = New
	_ func(*Book, api.Handle, api.Handle) error                 = (*Book).Open
	_ func(*Book, []api.Handle, bool) error                     = (*Book).Charge
	_ func(*Book, api.Handle, int, bool) error                  = (*Book).Note
	_ func(*Book, api.Handle) error                             = (*Book).Close
	_ func(*Book, api.Handle) (api.Account, api.Account, error) = (*Book).Of
	_ func(*Book) bool                                          = (*Book).Even
	_ func(*Book) *Book                                         = (*Book).Clone
	_ func(api.Account, api.Account) (api.Account, error)       = Add
	_ func(*Book, api.Handle, api.Account, api.Account) error   = (*Book).Load
)

// LE1 to LE4: the chapter's example.
func TestExample(t *testing.T) {
	book := New(root)
	for _, err := range []error{book.Open(a, root), book.Open(b, a), book.Charge([]api.Handle{root, a, b}, false)} {
		if err != nil {
			t.Fatal(err)
		}
	}
	p := &pair{t: t, book: book}
	p.is(root, api.Account{Given: 1}, api.Account{})
	p.is(a, api.Account{Given: 1}, api.Account{})
	p.is(b, api.Account{Given: 1, Own: 1}, api.Account{})
	answers(t, "Close(b)", book.Close(b), nil)
	p.is(a, api.Account{Given: 1}, api.Account{Given: 1, Own: 1})
	answers(t, "Close(a)", book.Close(a), nil)
	p.is(root, api.Account{Given: 1}, api.Account{Given: 1, Own: 1})
	if !book.Even() {
		t.Error("it is not even")
	}
}

// LE1: New of 0 is nil; of any other number a book with that account alone, of noughts.
func TestNew(t *testing.T) {
	if book := New(0); book != nil {
		t.Errorf("New(0) = %v", book)
	}
	for _, h := range []api.Handle{1, 2, -1, -2, math.MinInt, math.MinInt + 1, math.MaxInt - 1, math.MaxInt, root, -root, 1 << 32, 1 << 62} {
		p := made(t, h)
		p.is(h, api.Account{}, api.Account{})
		for _, other := range append([]api.Handle{h - 1, h + 1, -h}, strangers...) {
			if other == h {
				continue
			}
			if acc, closed, err := p.book.Of(other); acc != (api.Account{}) || closed != (api.Account{}) || err != api.ErrHandle {
				t.Errorf("New(%d): Of(%d) = %v, %v, %v", h, other, acc, closed, err)
			}
		}
		if !p.book.Even() {
			t.Errorf("New(%d) is not even", h)
		}
		p.fine(p.charge(false, h), p.open(h^4, h), p.charge(true, h, h^4), p.note(h, markCut, true))
		answers(t, "Close of the root", p.close(h), api.ErrRoot)
		p.is(h, api.Account{Given: 2, Own: 1, Cut: 1, Late: 1}, api.Account{})
	}
}

// LE1 to LE3: in the book that New(0) answers no account is open: nothing panics.
func TestNil(t *testing.T) {
	none := New(0)
	for _, h := range append([]api.Handle{root, a}, strangers...) {
		for _, parent := range []api.Handle{0, root, h} {
			answers(t, "Open", none.Open(h, parent), api.ErrHandle)
		}
		answers(t, "Charge", none.Charge([]api.Handle{h}, true), api.ErrHandle)
		answers(t, "Charge", none.Charge([]api.Handle{h, a}, false), api.ErrHandle)
		answers(t, "Note", none.Note(h, markDone, true), api.ErrHandle)
		answers(t, "Note", none.Note(h, 0, true), api.ErrHandle)
		answers(t, "Close", none.Close(h), api.ErrHandle)
		answers(t, "Load", none.Load(h, api.Account{}, api.Account{}), api.ErrHandle)
		answers(t, "Load", none.Load(h, api.Account{Own: -1}, api.Account{}), api.ErrHandle)
		if acc, closed, err := none.Of(h); acc != (api.Account{}) || closed != (api.Account{}) || err != api.ErrHandle {
			t.Errorf("Of(%d) = %v, %v, %v", h, acc, closed, err)
		}
	}
	answers(t, "Charge(nil)", none.Charge(nil, false), api.ErrHandle)
	if !none.Even() {
		t.Error("there is none that could be uneven")
	}
	if book := none.Clone(); book != nil {
		t.Errorf("Clone() = %v", book)
	}
}

// LE1: any number but 0 can be opened, below any account that is open, and is of noughts.
func TestOpen(t *testing.T) {
	p := made(t, root)
	parents := []api.Handle{root}
	for i, h := range append([]api.Handle{a, b, c, d, e}, strangers...) {
		if h == 0 {
			continue
		}
		p.fine(p.open(h, parents[i*7%len(parents)]))
		p.is(h, api.Account{}, api.Account{})
		parents = append(parents, h)
		p.fine(p.charge(i%2 == 0, p.m.path(h)...))
	}
	for _, h := range parents {
		answers(t, "Open again", p.open(h, root), api.ErrName)
	}
}

// LE1: Open's errors, and of two at once the one that the rule names first.
func TestOpenErrors(t *testing.T) {
	p := row(t)
	p.fine(p.open(e, a), p.charge(false, root, a, e), p.close(e))
	for _, x := range []struct {
		name      string
		h, parent api.Handle
		want      error
	}{
		{"h 0", 0, root, api.ErrHandle},
		{"h 0, a parent that is open, below it some", 0, a, api.ErrHandle},
		{"both 0", 0, 0, api.ErrHandle},
		{"a parent 0", 5, 0, api.ErrHandle},
		{"a parent that was never opened", 5, 6, api.ErrHandle},
		{"a parent that was closed", 5, e, api.ErrHandle},
		{"a parent that is h itself, never opened", 5, 5, api.ErrHandle},
		{"a parent that is h itself, and was closed", e, e, api.ErrHandle},
		{"a parent that is h itself, and is open", a, a, api.ErrName},
		{"the root below itself", root, root, api.ErrName},
		{"h open, below its parent", b, a, api.ErrName},
		{"h open, below another one", b, d, api.ErrName},
		{"h open, below what is below it", a, c, api.ErrName},
		{"h the root's", root, a, api.ErrName},
		{"h the root's, below the lowest", root, c, api.ErrName},
		{"h 0, and a parent that is not open", 0, 6, api.ErrHandle},
		{"h 0, and a parent that was closed", 0, e, api.ErrHandle},
		{"h open, and a parent that is not", b, 6, api.ErrHandle},
		{"h open, and a parent 0", b, 0, api.ErrHandle},
		{"h open, and a parent that was closed", b, e, api.ErrHandle},
		{"h the root's, and a parent that is not open", root, 6, api.ErrHandle},
		{"h the root's, and a parent 0", root, 0, api.ErrHandle},
	} {
		answers(t, x.name, p.open(x.h, x.parent), x.want)
	}
	for name, p := range starts(t) {
		for _, h := range strangers {
			if err := p.clone().open(h, 0); err != api.ErrHandle {
				t.Errorf("%s: Open(%d, 0): %v", name, h, err)
			}
			if err := p.clone().open(0, h); err != api.ErrHandle {
				t.Errorf("%s: Open(0, %d): %v", name, h, err)
			}
		}
	}
}

// LE1: what was closed can be opened again, below its old parent and below another one: of noughts, and so is what was closed below it.
func TestOpenAgain(t *testing.T) {
	for _, parent := range []api.Handle{root, a, c, d} {
		p := row(t)
		p.fine(p.open(e, a), p.open(5, e), p.charge(true, root, a, e, 5), p.charge(true, root, a, e), p.note(e, markDone, true), p.note(5, markCut, true))
		p.fine(p.close(5))
		p.is(e, api.Account{Given: 2, Own: 1, Lent: 1, Done: 1, Late: 1}, api.Account{Given: 1, Own: 1, Lent: 1, Cut: 1, Late: 1})
		p.fine(p.close(e))
		answers(t, "Charge of what was closed", p.charge(false, root, a, e), api.ErrHandle)
		was := p.clone()
		p.fine(p.open(e, parent))
		p.is(e, api.Account{}, api.Account{})
		p.fine(p.charge(false, p.m.path(e)...))
		p.is(e, api.Account{Given: 1, Own: 1}, api.Account{})
		if parent != a {
			answers(t, "Charge along the old path", p.charge(false, root, a, e), api.ErrHandle)
		}
		p.fine(p.close(e))
		was.check()
	}
}

// LE1: what was closed and is opened again, now above the one that it was below.
func TestOpenTheOtherWayRound(t *testing.T) {
	p := made(t, root)
	p.fine(p.open(a, root), p.open(b, a), p.charge(false, root, a, b), p.close(b), p.close(a))
	p.fine(p.open(b, root), p.open(a, b), p.charge(true, root, b, a))
	answers(t, "Charge along the old path", p.charge(false, root, a, b), api.ErrHandle)
	answers(t, "Close of the one above", p.close(b), api.ErrArg)
	p.fine(p.close(a), p.close(b))
	p.is(root, api.Account{Given: 2}, api.Account{Given: 2, Own: 2, Lent: 1})
}

// LE1: a tick is one more Given of each on the path, one more Own, and Lent, of the last one alone.
func TestCharge(t *testing.T) {
	p := row(t)
	p.fine(p.charge(false, root, a, b, c), p.charge(true, root, a, b, c), p.charge(false, root, a), p.charge(true, root), p.charge(true, root, d), p.charge(false, root, a, b))
	p.is(root, api.Account{Given: 6, Own: 1, Lent: 1}, api.Account{})
	p.is(a, api.Account{Given: 4, Own: 1}, api.Account{})
	p.is(b, api.Account{Given: 3, Own: 1}, api.Account{})
	p.is(c, api.Account{Given: 2, Own: 2, Lent: 1}, api.Account{})
	p.is(d, api.Account{Given: 1, Own: 1, Lent: 1}, api.Account{})
	for range 40 {
		p.fine(p.charge(false, root))
	}
	p.is(root, api.Account{Given: 46, Own: 41, Lent: 1}, api.Account{})
}

// LE1: lists that are no path change nothing.
func TestChargeOfNoPath(t *testing.T) {
	p := row(t)
	p.fine(p.open(e, a), p.close(e))
	for name, path := range map[string][]api.Handle{
		"nil":                               nil,
		"empty":                             {},
		"0":                                 {0},
		"a stranger":                        {5},
		"what was closed":                   {e},
		"without the root":                  {a},
		"without the root, two":             {a, b},
		"0 ahead of the root":               {0, root},
		"0 in the root's place":             {0, a},
		"a stranger in the root's place":    {5, a, b},
		"the root twice":                    {root, root},
		"the root twice, and more":          {root, root, a},
		"the root in the midst":             {root, a, root},
		"the root in the midst, and more":   {root, a, root, a},
		"the root last":                     {a, root},
		"one left out":                      {root, b},
		"one left out in the midst":         {root, a, c},
		"two left out":                      {root, c},
		"one twice":                         {root, a, a},
		"one twice, and more":               {root, a, a, b},
		"the last one twice":                {root, a, b, c, c},
		"in the wrong order":                {root, b, a},
		"the wrong way round":               {c, b, a, root},
		"up again":                          {root, a, b, a},
		"a child of another one":            {root, d, a},
		"a child of another one, last":      {root, a, d},
		"a child of another one, and more":  {root, d, b, c},
		"0 behind the root":                 {root, 0},
		"0 in the midst":                    {root, 0, a},
		"0 last":                            {root, a, 0},
		"a stranger behind the root":        {root, 5},
		"a stranger in the midst":           {root, a, 5, b},
		"a stranger last":                   {root, a, b, c, 5},
		"what was closed last":              {root, a, e},
		"what was closed in the midst":      {root, a, e, b},
		"what was closed behind the root":   {root, e},
		"as long as a path, of 0s":          {0, 0, 0},
		"a path, and its beginning behind":  {root, a, b, c, root, a},
		"the end of the ints for the root":  {math.MinInt, a},
		"the end of the ints as the last":   {root, math.MaxInt},
		"a path's handles one beside":       {root + 1, a + 1},
		"a path's second handle one beside": {root, a + 1},
	} {
		for _, lent := range []bool{false, true} {
			if err := p.charge(lent, path...); err != api.ErrHandle {
				t.Errorf("%s: %v", name, err)
			}
		}
	}
	p.is(root, api.Account{}, api.Account{})
	p.is(a, api.Account{}, api.Account{})
	for name, p := range starts(t) {
		for _, h := range strangers {
			for _, path := range [][]api.Handle{{h}, {root, h}, {h, root}, {root, h, a}} {
				if err := p.charge(true, path...); err != api.ErrHandle {
					t.Errorf("%s: Charge(%v): %v", name, path, err)
				}
			}
		}
	}
}

// LE1: every list of up to four handles, held against the model.
func TestEachList(t *testing.T) {
	for _, p := range starts(t) {
		lists := [][]api.Handle{{}}
		for range 4 {
			longer := [][]api.Handle{}
			for _, l := range lists {
				for _, h := range []api.Handle{root, a, b, c, d, 0} {
					longer = append(longer, slices.Concat(l, []api.Handle{h}))
				}
			}
			for _, l := range longer {
				p.clone().charge(len(l)%2 == 0, l...)
			}
			lists = longer
		}
	}
}

// LE1: the root can be charged till its Given is MaxTicks; then nothing is changed; a list that is no path is told ahead of that. What others were given stops nothing.
func TestChargeOverflow(t *testing.T) {
	for _, x := range []struct {
		given int
		want  error
	}{{mostTicks - 2, nil}, {mostTicks - 1, nil}, {mostTicks, api.ErrOverflow}} {
		for _, path := range [][]api.Handle{{root}, {root, a}, {root, a, b, c}} {
			p := row(t)
			p.fine(p.load(root, api.Account{Given: x.given, Own: x.given}, api.Account{}))
			answers(t, "Charge", p.charge(true, path...), x.want)
		}
	}
	p := row(t)
	p.fine(p.load(root, api.Account{Given: mostTicks - 1}, api.Account{}), p.charge(false, root, a))
	for _, path := range [][]api.Handle{{root}, {root, a}, {root, a, b}} {
		answers(t, "Charge at MaxTicks", p.charge(true, path...), api.ErrOverflow)
	}
	p.is(root, api.Account{Given: mostTicks}, api.Account{})
	p.is(a, api.Account{Given: 1, Own: 1}, api.Account{})
	for _, path := range [][]api.Handle{nil, {}, {a}, {root, b}, {root, a, a}, {root, 0}} {
		answers(t, "Charge of no path at MaxTicks", p.charge(false, path...), api.ErrHandle)
	}
	most := api.Account{Given: mostTicks, Own: mostTicks, Lent: mostTicks, Done: mostTicks, Cut: mostTicks, Late: mostTicks}
	p.fine(p.load(root, with(most, "Given", 0), most), p.load(a, most, most), p.load(b, most, most))
	p.fine(p.charge(true, root, a, b), p.charge(false, root, a), p.charge(true, root))
}

// LE1, LE2: a path's accounts below a root that has room take the tick, whatever each of their numbers is; what is beyond is told as it is.
func TestChargeBeyond(t *testing.T) {
	most := api.Account{Given: mostTicks, Own: mostTicks, Lent: mostTicks}
	p := row(t)
	p.fine(p.load(a, most, api.Account{}), p.charge(true, root, a))
	p.is(a, api.Account{Given: mostTicks + 1, Own: mostTicks + 1, Lent: mostTicks + 1}, api.Account{})
	acc, closed, _ := p.book.Of(a)
	answers(t, "Load of what is beyond", p.load(a, acc, closed), api.ErrArg)
	p.fine(p.load(a, most, most))
}

// LE1: a path as long as can be, in a row of accounts each below the one ahead; and from the last one up each is closed.
func TestLongPath(t *testing.T) {
	const long = 3000
	book, path := New(root), []api.Handle{root}
	for i := range long {
		h := api.Handle(-5 - i*i)
		if err := book.Open(h, path[i]); err != nil {
			t.Fatalf("Open %d: %v", i, err)
		}
		path = append(path, h)
	}
	for many := 1; many <= len(path); many += 500 {
		if err := book.Charge(path[:many], true); err != nil {
			t.Fatalf("Charge of %d: %v", many, err)
		}
	}
	if err := book.Charge(slices.Concat(path, []api.Handle{root}), true); err != api.ErrHandle {
		t.Errorf("Charge of one too many: %v", err)
	}
	if err := book.Charge(slices.Delete(slices.Clone(path), 1500, 1501), true); err != api.ErrHandle {
		t.Errorf("Charge with one left out: %v", err)
	}
	for place, h := range path {
		want := api.Account{Given: 7 - (place+499)/500}
		if place%500 == 0 {
			want.Own, want.Lent = 1, 1
		}
		if acc, _, err := book.Of(h); acc != want || err != nil {
			t.Fatalf("Of the one at %d = %v, %v; want %v", place, acc, err, want)
		}
	}
	for place := long; place > 0; place-- {
		if err := book.Close(path[place]); err != nil {
			t.Fatalf("Close of the one at %d: %v", place, err)
		}
	}
	acc, closed, err := book.Of(root)
	if acc != (api.Account{Given: 7, Own: 1, Lent: 1}) || closed != (api.Account{Given: 6, Own: 6, Lent: 6}) || err != nil || !book.Even() {
		t.Errorf("Of(root) = %v, %v, %v", acc, closed, err)
	}
}

// LE1: the path is not kept, and its spare room is let alone.
func TestChargeKeepsNoPath(t *testing.T) {
	p := row(t)
	room := []api.Handle{root, a, b, 77, 78}
	path := room[:3]
	for range 3 {
		p.fine(p.book.Charge(path, true), p.m.charge(path, true))
	}
	if !slices.Equal(room, []api.Handle{root, a, b, 77, 78}) {
		t.Errorf("the path's room: %v", room)
	}
	for i := range room {
		room[i] = api.Handle(900 + i)
	}
	p.check()
	p.fine(p.charge(false, root, a, b), p.close(c), p.close(b))
	p.check()
}

// LE2: each kind, late and not: one more of what is meant, at that account alone.
func TestNote(t *testing.T) {
	p := row(t)
	p.fine(p.note(b, markDone, false), p.note(b, markDone, true), p.note(b, markDone, false), p.note(b, markCut, true), p.note(b, markCut, true))
	p.fine(p.note(root, markCut, false), p.note(c, markDone, true))
	p.is(b, api.Account{Done: 3, Cut: 2, Late: 3}, api.Account{})
	p.is(root, api.Account{Cut: 1}, api.Account{})
	p.is(a, api.Account{}, api.Account{})
	p.is(c, api.Account{Done: 1, Late: 1}, api.Account{})
	if api.MarkDone != markDone || api.MarkCut != markCut {
		t.Error("the marks' numbers")
	}
	if !p.book.Even() {
		t.Error("jobs make nothing uneven")
	}
}

// LE2: other kinds change nothing, nor do handles that aren't open, which are told ahead of them.
func TestNoteErrors(t *testing.T) {
	kinds := append([]int{3, 4, 5, 6, 7, 10, 11, -8, -9, 8 + 1<<32, 9 + 1<<32, 8 - 1<<32, 9 - 1<<32, 8 + math.MinInt, 9 + math.MinInt, 8 + 256, 9 + 256}, edges...)
	for name, p := range starts(t) {
		for _, late := range []bool{false, true} {
			for _, kind := range kinds {
				if err := p.note(root, kind, late); err != api.ErrArg {
					t.Errorf("%s: Note(root, %d, %v): %v", name, kind, late, err)
				}
				for _, h := range strangers {
					if err := p.note(h, kind, late); err != api.ErrHandle {
						t.Errorf("%s: Note(%d, %d, %v): %v", name, h, kind, late, err)
					}
				}
			}
			for _, h := range append([]api.Handle{e}, strangers...) {
				answers(t, name, p.note(h, markDone, late), api.ErrHandle)
				answers(t, name, p.note(h, markCut, late), api.ErrHandle)
			}
		}
	}
}

// LE2: Done, or Cut, can be noted till it is MaxTicks, whatever the other one and all else is; a kind that is none is told ahead of that.
func TestNoteOverflow(t *testing.T) {
	for kind, field := range map[int]string{markDone: "Done", markCut: "Cut"} {
		other, otherKind := "Cut", markCut
		if kind == markCut {
			other, otherKind = "Done", markDone
		}
		for _, late := range []bool{false, true} {
			p := row(t)
			p.fine(p.load(a, with(api.Account{}, field, mostTicks-1), api.Account{}), p.note(a, kind, late))
			for range 2 {
				answers(t, field+" at MaxTicks", p.note(a, kind, late), api.ErrOverflow)
				answers(t, field+" at MaxTicks", p.note(a, kind, !late), api.ErrOverflow)
			}
			want := with(api.Account{}, field, mostTicks)
			if late {
				want.Late = 1
			}
			p.is(a, want, api.Account{})
			answers(t, "a kind that is none", p.note(a, 7, late), api.ErrArg)
			answers(t, "a kind that is none", p.note(a, 10, late), api.ErrArg)
			answers(t, "not open", p.note(e, kind, late), api.ErrHandle)
			p.fine(p.note(a, otherKind, late), p.note(root, kind, late))
			full := api.Account{Given: mostTicks, Own: mostTicks, Lent: mostTicks, Done: mostTicks, Cut: mostTicks, Late: mostTicks}
			p.fine(p.load(a, with(full, other, 0), full), p.note(a, otherKind, false))
			answers(t, field+" at MaxTicks", p.note(a, kind, late), api.ErrOverflow)
			p.fine(p.load(a, with(full, field, mostTicks-1), full), p.note(a, kind, late))
			answers(t, other+" at MaxTicks", p.note(a, otherKind, late), api.ErrOverflow)
		}
	}
}

// LE2: Close's errors, in their order; nothing is changed by them.
func TestCloseErrors(t *testing.T) {
	for name, p := range starts(t) {
		for _, h := range append([]api.Handle{e}, strangers...) {
			if err := p.close(h); err != api.ErrHandle {
				t.Errorf("%s: Close(%d): %v", name, h, err)
			}
		}
		if err := p.close(root); err != api.ErrRoot {
			t.Errorf("%s: Close(root): %v", name, err)
		}
	}
	p := busy(t)
	answers(t, "Close(a)", p.close(a), api.ErrArg)
	answers(t, "Close(b)", p.close(b), api.ErrArg)
	p.fine(p.close(c))
	answers(t, "Close(c) again", p.close(c), api.ErrHandle)
	answers(t, "Close(a)", p.close(a), api.ErrArg)
	p.fine(p.close(b))
	answers(t, "Close(b) again", p.close(b), api.ErrHandle)
	p.fine(p.close(a), p.close(d))
	answers(t, "Close(root), with none below it", p.close(root), api.ErrRoot)
}

// LE2: with several below it an account can be closed when all of them are, in whatever order.
func TestCloseWithSeveral(t *testing.T) {
	below := []api.Handle{b, c, d, e}
	for seed := range 30 {
		p := made(t, root)
		p.fine(p.open(a, root))
		for i, h := range below {
			p.fine(p.open(h, a))
			for range i + 1 {
				p.fine(p.charge(i%2 == 0, root, a, h), p.note(h, markCut, i == 2))
			}
		}
		for _, place := range rand.New(rand.NewSource(int64(seed))).Perm(len(below)) {
			answers(t, "Close, one open below it", p.close(a), api.ErrArg)
			p.fine(p.close(below[place]))
		}
		p.is(a, api.Account{Given: 10}, api.Account{Given: 10, Own: 10, Lent: 4, Cut: 10, Late: 3})
		p.fine(p.close(a))
		p.is(root, api.Account{Given: 10}, api.Account{Given: 10, Own: 10, Lent: 4, Cut: 10, Late: 3})
	}
}

// LE2: what is closed is added to its parent's closed: its Given, and all else of it together with what was closed below it.
func TestCloseAdds(t *testing.T) {
	p := busy(t)
	if !p.book.Even() {
		t.Fatal("it is not even")
	}
	p.load(c, api.Account{Given: 7, Own: 5, Lent: 4, Done: 3, Cut: 2, Late: 1}, api.Account{Given: 20, Own: 30, Lent: 40, Done: 50, Cut: 60, Late: 70})
	p.load(b, api.Account{Given: 100}, api.Account{Given: 1000, Own: 2000, Lent: 3000, Done: 4000, Cut: 5000, Late: 6000})
	p.load(a, api.Account{Given: 5}, api.Account{Given: 10000})
	p.fine(p.close(c))
	p.is(b, api.Account{Given: 100}, api.Account{Given: 1007, Own: 2035, Lent: 3044, Done: 4053, Cut: 5062, Late: 6071})
	p.fine(p.close(b))
	p.is(a, api.Account{Given: 5}, api.Account{Given: 10100, Own: 2035, Lent: 3044, Done: 4053, Cut: 5062, Late: 6071})
}

// LE2: what is closed is added whole, though a sum is above MaxTicks then: no error is named for that.
func TestCloseBeyond(t *testing.T) {
	most := api.Account{Given: mostTicks, Own: mostTicks, Lent: mostTicks, Done: mostTicks, Cut: mostTicks, Late: mostTicks}
	p := row(t)
	p.fine(p.load(d, most, most), p.load(root, api.Account{}, most), p.close(d))
	p.is(root, api.Account{}, api.Account{
		Given: 2 * mostTicks, Own: 3 * mostTicks, Lent: 3 * mostTicks, Done: 3 * mostTicks, Cut: 3 * mostTicks, Late: 3 * mostTicks,
	})
}

// LE2, LE4: a row of accounts with ticks, own and lent, and jobs of all sorts is closed from the last one up: the root has it all at last.
func TestCloseRow(t *testing.T) {
	p := busy(t)
	acc, all, _ := p.book.Of(root)
	for _, h := range []api.Handle{a, b, c, d} {
		own, closed, _ := p.book.Of(h)
		for _, x := range []api.Account{own, closed} {
			all.Own, all.Lent, all.Done, all.Cut, all.Late = all.Own+x.Own, all.Lent+x.Lent, all.Done+x.Done, all.Cut+x.Cut, all.Late+x.Late
		}
	}
	all.Given = all.Own
	if all.Given != acc.Given-acc.Own || all.Lent == 0 || all.Done == 0 || all.Cut == 0 || all.Late == 0 {
		t.Fatalf("the book is not what it should be: %v, %v", acc, all)
	}
	p.fine(p.close(c), p.close(b), p.close(a), p.close(d))
	p.is(root, acc, all)
	if !p.book.Even() {
		t.Error("it is not even")
	}
}

// LE3: Of at handles that are not open, in books of all sorts: noughts and ErrHandle.
func TestOf(t *testing.T) {
	for _, p := range starts(t) {
		check(t, p.book, p.m, append([]api.Handle{root, a, b, c, d, e}, strangers...)...)
	}
}

// LE3: asking changes nothing, and an answer can be changed with nothing else changed.
func TestQuestions(t *testing.T) {
	for _, p := range starts(t) {
		for range 3 {
			for _, h := range append([]api.Handle{e}, p.m.handles()...) {
				acc, closed, _ := p.book.Of(h)
				acc.Given, closed.Own = acc.Given+1, -1
			}
			p.book.Even()
			p.book.Clone()
			p.check()
		}
	}
}

// LE3: behind Load of accounts that are not even, one fault at a time; and of the even ones Even again.
func TestEven(t *testing.T) {
	p := busy(t)
	for _, h := range p.m.handles() {
		acc, closed, _ := p.book.Of(h)
		p.even(h, acc, closed, true)
		for _, field := range []string{"Given", "Own"} {
			given, gone := *fields[field](&acc), *fields[field](&closed)
			for n := range 40 {
				p.even(h, with(acc, field, n), closed, n == given)
				p.even(h, acc, with(closed, field, n), n == gone)
			}
		}
		for lent := range acc.Own + 3 {
			p.even(h, with(acc, "Lent", lent), closed, lent <= acc.Own)
		}
		// Jobs make nothing uneven, nor do the ticks of what was closed that were lent.
		for _, field := range []string{"Done", "Cut", "Late"} {
			p.even(h, with(acc, field, mostTicks), closed, true)
			p.even(h, with(acc, field, 0), closed, true)
		}
		for _, field := range []string{"Lent", "Done", "Cut", "Late"} {
			p.even(h, acc, with(closed, field, mostTicks), true)
			p.even(h, acc, with(closed, field, 0), true)
		}
	}
}

// even loads an account into a clone, holds whether all is even then against what a test says, and that the book itself is even still.
func (p *pair) even(h api.Handle, acc, closed api.Account, want bool) {
	p.t.Helper()
	other := p.clone()
	p.fine(other.load(h, acc, closed))
	if got := other.book.Even(); got != want {
		p.t.Errorf("%d with %v, %v: Even() = %v; want %v", h, acc, closed, got, want)
	}
	if !p.book.Even() {
		p.t.Errorf("the book itself is not even")
	}
}

// LE3: two faults that make up for one another in sums of all accounts do not at each: each open account counts for itself.
func TestEvenAtEach(t *testing.T) {
	p := row(t)
	p.fine(p.charge(false, root, a, b, c), p.charge(false, root, d))
	p.fine(p.load(c, api.Account{Given: 1}, api.Account{}), p.load(d, api.Account{Given: 1, Own: 2}, api.Account{}))
	if p.book.Even() {
		t.Error("Own of c is one too few, that of d one too many")
	}
	p = row(t)
	p.fine(p.load(a, api.Account{Lent: 1}, api.Account{}), p.load(b, api.Account{Given: 1, Own: 1}, api.Account{}))
	if p.book.Even() {
		t.Error("Given of b is one more than a's; a has lent what it had not")
	}
	p = row(t)
	p.fine(p.load(a, api.Account{Given: 1}, api.Account{Given: 1, Own: 2}), p.load(root, api.Account{Given: 2}, api.Account{Given: 1}))
	if p.book.Even() {
		t.Error("what was closed below a has more Own than Given, and that below the root less")
	}
	for given := range 5 {
		for own := range 5 {
			for lent := range 5 {
				for closed := range 5 {
					for closedOwn := range 5 {
						p := made(t, root)
						p.fine(p.load(root, api.Account{Given: given, Own: own, Lent: lent}, api.Account{Given: closed, Own: closedOwn}))
						if got, want := p.book.Even(), given == own+closed && lent <= own && closed == closedOwn; got != want {
							t.Errorf("%d, %d, %d; %d, %d: %v", given, own, lent, closed, closedOwn, got)
						}
					}
				}
			}
		}
	}
}

// LE3: a clone, a clone of that, and the book that they came from are each worked on apart.
func TestClone(t *testing.T) {
	for _, p := range starts(t) {
		pairs := []*pair{p, p.clone()}
		pairs = append(pairs, pairs[1].clone())
		for turn := range 40 {
			one := pairs[turn%3]
			chance(one, rand.New(rand.NewSource(int64(turn))), 5, true)
			for _, other := range pairs {
				other.check()
			}
		}
	}
}

// LE3: a clone stays as it is when all accounts of the book are closed, and others are opened, and the other way round.
func TestCloneStays(t *testing.T) {
	for _, swapped := range []bool{false, true} {
		p := busy(t)
		stays := p.clone()
		if swapped {
			p, stays = stays, p
		}
		p.fine(p.close(c), p.close(b), p.close(a), p.close(d), p.open(c, root), p.open(e, c), p.charge(true, root, c, e), p.note(e, markDone, true))
		p.fine(p.load(root, api.Account{Given: 3}, api.Account{Late: 9}))
		stays.check()
		answers(t, "Open of what is open in the clone", stays.open(a, root), api.ErrName)
		stays.fine(stays.charge(false, root, a, b, c))
		p.check()
	}
}

// LE3: Add's sums number by number, and its errors: each number of either account at each edge.
func TestAdd(t *testing.T) {
	one := api.Account{Given: 1, Own: 20, Lent: 300, Done: 4000, Cut: 50000, Late: 600000}
	two := api.Account{Given: 7, Own: 7, Lent: 6, Done: 5, Cut: 4, Late: 3}
	want := api.Account{Given: 8, Own: 27, Lent: 306, Done: 4005, Cut: 50004, Late: 600003}
	adds(t, one, two, want, nil)
	adds(t, api.Account{}, api.Account{}, api.Account{}, nil)
	for field := range fields {
		for _, n := range edges {
			for _, rest := range []api.Account{{}, one} {
				x := with(rest, field, n)
				if n < 0 || n > mostTicks {
					adds(t, x, api.Account{}, api.Account{}, api.ErrArg)
					adds(t, x, two, api.Account{}, api.ErrArg)
					adds(t, x, x, api.Account{}, api.ErrArg)
					continue
				}
				adds(t, x, api.Account{}, x, nil)
			}
		}
	}
}

// adds holds Add of two accounts, either one first, against an answer.
func adds(t *testing.T, x, y, want api.Account, wantErr error) {
	t.Helper()
	if got, err := Add(x, y); got != want || err != wantErr {
		t.Errorf("Add(%v, %v) = %v, %v; want %v, %v", x, y, got, err, want, wantErr)
	}
	if got, err := Add(y, x); got != want || err != wantErr {
		t.Errorf("Add(%v, %v) = %v, %v; want %v, %v", y, x, got, err, want, wantErr)
	}
}

// LE3: sums at MaxTicks and one beyond, of each number; an account that may not be is told ahead of a sum that is beyond.
func TestAddOverflow(t *testing.T) {
	most := api.Account{Given: mostTicks, Own: mostTicks, Lent: mostTicks, Done: mostTicks, Cut: mostTicks, Late: mostTicks}
	adds(t, most, api.Account{}, most, nil)
	adds(t, most, most, api.Account{}, api.ErrOverflow)
	for field := range fields {
		for _, n := range []int{0, 1, 2, mostTicks / 2, mostTicks - 1, mostTicks} {
			for _, more := range []int{-1, 0, 1} {
				m := mostTicks - n + more
				if m < 0 || m > mostTicks {
					continue
				}
				x, y := with(api.Account{Given: 1, Own: 1, Done: 3}, field, n), with(api.Account{Own: 2, Late: 8}, field, m)
				if more == 1 {
					adds(t, x, y, api.Account{}, api.ErrOverflow)
					continue
				}
				want := api.Account{Given: x.Given + y.Given, Own: x.Own + y.Own, Lent: x.Lent + y.Lent, Done: x.Done + y.Done, Cut: x.Cut + y.Cut, Late: x.Late + y.Late}
				adds(t, x, y, want, nil)
			}
		}
		for other := range fields {
			for _, n := range []int{-1, mostTicks + 1, math.MinInt, math.MaxInt} {
				x := with(most, other, n)
				adds(t, x, with(api.Account{}, field, mostTicks), api.Account{}, api.ErrArg)
				adds(t, x, most, api.Account{}, api.ErrArg)
			}
		}
	}
}

// LE3: Load with each number of either account at each edge; what can't be changes nothing, and a handle that isn't open is told ahead of that.
func TestLoad(t *testing.T) {
	one := api.Account{Given: 1, Own: 20, Lent: 300, Done: 4000, Cut: 50000, Late: 600000}
	two := api.Account{Given: 7, Own: 9, Lent: 6, Done: 5, Cut: 4, Late: 3}
	p := busy(t)
	for field := range fields {
		for _, n := range edges {
			for _, h := range []api.Handle{root, a, c, d} {
				var want error
				if n < 0 || n > mostTicks {
					want = api.ErrArg
				}
				answers(t, field, p.clone().load(h, with(one, field, n), two), want)
				answers(t, field, p.clone().load(h, one, with(two, field, n)), want)
				answers(t, field, p.clone().load(h, with(api.Account{}, field, n), api.Account{}), want)
				answers(t, field, p.clone().load(h, with(one, field, n), with(two, field, n)), want)
			}
			for _, h := range append([]api.Handle{e}, strangers...) {
				answers(t, field, p.load(h, with(one, field, n), two), api.ErrHandle)
				answers(t, field, p.load(h, one, with(two, field, n)), api.ErrHandle)
			}
		}
	}
	p.fine(p.load(b, one, two))
	p.is(b, one, two)
	p.fine(p.load(b, two, one))
	p.is(b, two, one)
	p.fine(p.load(b, api.Account{}, api.Account{}))
	p.is(b, api.Account{}, api.Account{})
}

// LE3: what was loaded is worked on as any other is: it stands where it stood in the tree, and nothing else is changed.
func TestLoadGoesOn(t *testing.T) {
	p := row(t)
	p.fine(p.load(b, api.Account{Given: 50, Own: 10, Lent: 3, Done: 2, Cut: 1, Late: 1}, api.Account{Given: 40, Own: 40, Lent: 8, Done: 7, Cut: 6, Late: 5}))
	p.fine(p.charge(true, root, a, b), p.charge(false, root, a, b, c), p.note(b, markCut, true))
	p.is(b, api.Account{Given: 52, Own: 11, Lent: 4, Done: 2, Cut: 2, Late: 2}, api.Account{Given: 40, Own: 40, Lent: 8, Done: 7, Cut: 6, Late: 5})
	answers(t, "Close, c is open below it", p.close(b), api.ErrArg)
	p.fine(p.close(c), p.close(b))
	p.is(a, api.Account{Given: 2}, api.Account{Given: 52, Own: 52, Lent: 12, Done: 9, Cut: 8, Late: 7})
}

// LE3: what Of says of a book's accounts, loaded into a book with the same ones open, goes on alike.
func TestLoadOfOf(t *testing.T) {
	for _, p := range starts(t) {
		other := made(t, root)
		for _, s := range p.m.sheets[1:] {
			other.fine(other.open(s.h, s.parent))
		}
		for _, h := range p.m.handles() {
			acc, closed, err := p.book.Of(h)
			other.fine(err, other.load(h, acc, closed))
		}
		for seed := range 5 {
			one, same := p.clone(), &pair{t, other.book.Clone(), p.m.twin()}
			same.check()
			chance(one, rand.New(rand.NewSource(int64(seed))), 60, false)
			chance(same, rand.New(rand.NewSource(int64(seed))), 60, false)
			if !slices.Equal(one.m.sheets, same.m.sheets) {
				t.Fatal("they go on unlike")
			}
		}
	}
}

// calls are calls of all sorts at three accounts.
var calls = []func(p *pair){
	func(p *pair) { p.open(a, root) },
	func(p *pair) { p.open(b, a) },
	func(p *pair) { p.open(b, root) },
	func(p *pair) { p.open(a, b) },
	func(p *pair) { p.charge(true, root) },
	func(p *pair) { p.charge(true, root, a) },
	func(p *pair) { p.charge(false, root, b) },
	func(p *pair) { p.charge(false, root, a, b) },
	func(p *pair) { p.charge(true, root, b, a) },
	func(p *pair) { p.note(a, markDone, true) },
	func(p *pair) { p.note(b, markCut, false) },
	func(p *pair) { p.close(a) },
	func(p *pair) { p.close(b) },
}

// LE1 to LE4: every row of five calls, each step on a clone, and even behind each; the book that a clone came from stays as it was.
func TestEachRow(t *testing.T) {
	var walk func(p *pair, steps int)
	walk = func(p *pair, steps int) {
		if !p.book.Even() {
			t.Fatalf("it is not even: %v", p.m.sheets)
		}
		if steps == 0 {
			return
		}
		for _, call := range calls {
			next := &pair{t, p.book.Clone(), p.m.twin()}
			call(next)
			walk(next, steps-1)
		}
		p.check()
	}
	walk(made(t, root), 5)
}

// pool are the handles of rows by chance, some of them the ends of their numbers.
var pool = []api.Handle{root, a, b, c, d, e, 1, 2, 3, -1, math.MinInt, 1 << 40}

// chance does calls by chance, most of them such that go, if asked for with Load of accounts too, some at their edges.
func chance(p *pair, r *rand.Rand, steps int, loads bool) {
	p.t.Helper()
	any := func() api.Handle { return pool[r.Intn(len(pool))] }
	open := func() api.Handle {
		if r.Intn(8) == 0 {
			return any()
		}
		l := p.m.handles()
		return l[r.Intn(len(l))]
	}
	account := func() api.Account {
		x := api.Account{}
		for _, field := range []string{"Given", "Own", "Lent", "Done", "Cut", "Late"} {
			n := r.Intn(5)
			if r.Intn(6) == 0 {
				n = []int{mostTicks - 1, mostTicks, mostTicks - 2}[r.Intn(3)]
			}
			if r.Intn(60) == 0 {
				n = edges[r.Intn(len(edges))]
			}
			x = with(x, field, n)
		}
		return x
	}
	for range steps {
		switch k := r.Intn(20); {
		case k < 4:
			p.open(any(), open())
		case k < 11:
			p.charge(r.Intn(3) == 0, wrung(r, p, open())...)
		case k < 15:
			p.note(open(), []int{markDone, markCut, markDone, markCut, markDone, markCut, 7, 10, 0}[r.Intn(9)], r.Intn(2) == 0)
		case k < 18 || !loads:
			p.close(open())
		default:
			p.load(open(), account(), account())
		}
	}
}

// wrung is a path to an account, or now and then a list that is none any more.
func wrung(r *rand.Rand, p *pair, h api.Handle) []api.Handle {
	path := []api.Handle{root, h}
	if p.m.at(h) != nil {
		path = p.m.path(h)
	}
	place := r.Intn(len(path))
	switch r.Intn(24) {
	case 0:
		return path[place:]
	case 1:
		return slices.Delete(path, place, place+1)
	case 2:
		return slices.Insert(path, place, path[place])
	case 3:
		path[place] = pool[r.Intn(len(pool))]
	case 4:
		other := r.Intn(len(path))
		path[place], path[other] = path[other], path[place]
	case 5:
		slices.Reverse(path)
	case 6:
		return append(path, pool[r.Intn(len(pool))])
	}
	return path
}

// LE1 to LE3: rows of calls by chance, with Load among them, held against the model.
func TestRows(t *testing.T) {
	for seed := range 60 {
		r := rand.New(rand.NewSource(int64(seed)))
		p := made(t, root)
		for range 20 {
			was := p.clone()
			chance(p, r, 40, seed%2 == 0)
			was.check()
			if r.Intn(3) == 0 {
				p = p.clone()
			}
		}
	}
}

// record is an account in a history: what was its own, and where it stood; what it was given is counted from the ticks below it alone.
type record struct {
	h     api.Handle
	above *record
	open  bool
	own   api.Account // Own, Lent, Done, Cut, Late
}

// below tells whether a record is below another one, in the tree or among what was closed below it.
func (r *record) below(other *record) bool {
	for at := r.above; at != nil; at = at.above {
		if at == other {
			return true
		}
	}
	return false
}

// host is the first record above one that is open still: the one below which it was closed.
func (r *record) host() *record {
	at := r.above
	for !at.open {
		at = at.above
	}
	return at
}

// counted is a record's account, and what was closed below it, counted from a whole history.
func counted(history []*record, r *record) (api.Account, api.Account) {
	acc, closed := r.own, api.Account{}
	acc.Given = r.own.Own
	for _, other := range history {
		if other.below(r) {
			acc.Given += other.own.Own
		}
		if !other.open && other.host() == r {
			closed.Given += other.own.Own
			closed.Own += other.own.Own
			closed.Lent += other.own.Lent
			closed.Done += other.own.Done
			closed.Cut += other.own.Cut
			closed.Late += other.own.Late
		}
	}
	return acc, closed
}

// LE4: rows of calls that open, charge, note and close: every account is what is counted from the whole history, and all is even.
func TestHistory(t *testing.T) {
	for seed := range 40 {
		r := rand.New(rand.NewSource(int64(seed)))
		book, top := New(root), &record{h: root, open: true}
		history, live := []*record{top}, []*record{top}
		for range 120 {
			at := live[r.Intn(len(live))]
			path := []api.Handle{}
			for up := at; up != nil; up = up.above {
				path = append([]api.Handle{up.h}, path...)
			}
			var err error
			switch r.Intn(7) {
			case 0, 1:
				h := pool[1+r.Intn(len(pool)-1)]
				if slices.ContainsFunc(live, func(x *record) bool { return x.h == h }) {
					continue
				}
				err = book.Open(h, at.h)
				kid := &record{h: h, above: at, open: true}
				history, live = append(history, kid), append(live, kid)
			case 2, 3:
				lent := r.Intn(2)
				err = book.Charge(path, lent == 1)
				at.own.Own, at.own.Lent = at.own.Own+1, at.own.Lent+lent
			case 4:
				late := r.Intn(2)
				err = book.Note(at.h, markDone, late == 1)
				at.own.Done, at.own.Late = at.own.Done+1, at.own.Late+late
			case 5:
				late := r.Intn(2)
				err = book.Note(at.h, markCut, late == 1)
				at.own.Cut, at.own.Late = at.own.Cut+1, at.own.Late+late
			case 6:
				if at == top || slices.ContainsFunc(live, func(x *record) bool { return x.above == at }) {
					continue
				}
				err = book.Close(at.h)
				at.open = false
				live = slices.DeleteFunc(live, func(x *record) bool { return x == at })
			}
			if err != nil {
				t.Fatal(err)
			}
			for _, x := range live {
				acc, closed := counted(history, x)
				if got, gotClosed, err := book.Of(x.h); got != acc || gotClosed != closed || err != nil {
					t.Fatalf("Of(%d) = %v, %v, %v; counted: %v, %v", x.h, got, gotClosed, err, acc, closed)
				}
			}
			if !book.Even() {
				t.Fatal("it is not even")
			}
		}
	}
}

// LE3: books are alone: what is done to one is seen in no other one, of the same root either.
func TestBooksAreAlone(t *testing.T) {
	one, other := made(t, root), made(t, root)
	one.fine(one.open(a, root), one.charge(true, root, a), one.note(a, markCut, true))
	other.check()
	answers(t, "Charge in the other book", other.charge(true, root, a), api.ErrHandle)
	other.fine(other.open(b, root), other.charge(false, root, b), other.close(b))
	one.check()
	one.fine(one.close(a))
	other.check()
}
