package fault

import (
	"errors"
	"math"
	"math/rand"
	"reflect"
	"slices"
	"strconv"
	"strings"
	"testing"

	"tithe/api"
)

// naming is a number and the name that the document gives it.
type naming struct {
	number int
	name   string
}

// known are the errors that have a name, as the document writes them.
var known = []naming{
	{1, "arg"}, {2, "range"}, {3, "long"}, {4, "form"}, {10, "overflow"},
	{20, "handle"}, {30, "room"}, {40, "full"}, {50, "none"}, {60, "time"},
	{80, "overload"}, {90, "depth"}, {91, "root"}, {92, "dying"}, {220, "late"},
	{240, "word"}, {250, "line"}, {251, "name"}, {270, "state"}, {280, "script"},
}

// operations are those that have a name, as the document writes them.
var operations = []naming{
	{1, "create"}, {2, "resize"}, {3, "delete"}, {4, "task"}, {5, "untask"}, {6, "job"}, {7, "tick"}, {8, "node"}, {9, "show"},
}

// edges are the ends of the ints, and numbers that would be others, if cut off.
var edges = []int{
	math.MinInt, math.MinInt + 1, math.MinInt32 - 1, math.MinInt32, -1 << 16, -256, -255, -10, -9, -2, -1, 0,
	255, 256, 257, 258, 1 << 16, 1<<16 + 1, math.MaxInt32, math.MaxInt32 + 1, 1<<32 + 1, 1<<32 + 9, 1<<32 + 80, math.MaxInt - 1, math.MaxInt,
}

// numbers are those around all that have a name, and the edges.
func numbers() []int {
	l := slices.Clone(edges)
	for n := -30; n <= 310; n++ {
		l = append(l, n)
	}
	return l
}

// nameOf is a number's name in a list; empty: it has none.
func nameOf(l []naming, number int) string {
	for _, n := range l {
		if n.number == number {
			return n.name
		}
	}
	return ""
}

// telling is a handle and what is told of it.
type telling struct {
	h    api.Handle
	text string
}

// tellings are handles that may be, and such that may not, at the ends of their parts and of the ints.
var tellings = []telling{
	{0, "-"},
	{1099511627777, "n0.1"}, {1099511628799, "n0.1023"}, {1099512676353, "n1.1"}, {1099514773511, "n3.7"},
	{1168230055937, "n65535.1"}, {1168230056959, "n65535.1023"},
	{2199023255553, "t0.1"}, {2267741684735, "t65535.1023"},
	{3298534883329, "s0.1"}, {3298550612991, "s15.1023"}, {3367253312511, "s65535.1023"},
	{-1, "#-1"}, {-2, "#-2"}, {1, "#1"}, {2, "#2"}, {7, "#7"}, {1023, "#1023"}, {1048577, "#1048577"},
	{1099511627775, "#1099511627775"}, {1099511627776, "#1099511627776"}, {1099511628800, "#1099511628800"},
	{1168230055936, "#1168230055936"}, {1168230056960, "#1168230056960"}, {1168231104513, "#1168231104513"},
	{2199023255552, "#2199023255552"}, {3298534883328, "#3298534883328"}, {3367253312512, "#3367253312512"},
	{4398046511104, "#4398046511104"}, {4398046511105, "#4398046511105"}, {-1099511627777, "#-1099511627777"},
	{4611687117939015681, "#4611687117939015681"},
	{math.MinInt, "#-9223372036854775808"}, {math.MinInt + 1, "#-9223372036854775807"}, {math.MaxInt, "#9223372036854775807"},
}

// What comes from outside: errors of kinds that this layer doesn't know.

// shell wraps an error, with a text of its own.
type shell struct {
	text string
	err  error
}

func (s *shell) Error() string { return s.text }
func (s *shell) Unwrap() error { return s.err }

// bundle wraps several errors.
type bundle struct {
	text string
	list []error
}

func (b *bundle) Error() string   { return b.text }
func (b *bundle) Unwrap() []error { return b.list }

// row is an error that has no ==.
type row []string

func (r row) Error() string { return strings.Join(r, ",") }

// clad has the methods of the Fault in it.
type clad struct{ *Fault }

// guise says of itself what it is as a number, a Fault, a Place; it answers so, or else says that it is none of that after all.
type guise struct {
	number api.Errno
	fault  *Fault
	place  *Place
	so     bool
}

func (g guise) Error() string { return "guise" }
func (g guise) As(target any) bool {
	switch to := target.(type) {
	case *api.Errno:
		*to = g.number
	case **Fault:
		*to = g.fault
	case **Place:
		*to = g.place
	}
	return g.so
}

// Errors that panic, each at a method.
type (
	panicText  struct{ err error }
	panicInner struct{}
	panicInAll struct{}
	panicAs    struct{}
)

func (p panicText) Error() string { panic("text") }
func (p panicText) Unwrap() error { return p.err }

func (panicInner) Error() string { return "inner" }
func (panicInner) Unwrap() error { panic(errors.New("inner")) }

func (panicInAll) Error() string   { return "all" }
func (panicInAll) Unwrap() []error { panic(nil) }

func (panicAs) Error() string { return "as" }
func (panicAs) Unwrap() error { return api.ErrFull }
func (panicAs) As(target any) bool {
	guise{9, &Fault{Op: 9}, &Place{Line: 9}, true}.As(target)
	panic("as")
}

// pointer is a number's pointer: an error too, though no number.
func pointer(e api.Errno) *api.Errno { return &e }

// What an error is, or else the zero one of its kind.

func faultOf(err error) (f *Fault)    { f, _ = err.(*Fault); return f }
func placeOf(err error) (p *Place)    { p, _ = err.(*Place); return p }
func pairOf(err error) (p *Pair)      { p, _ = err.(*Pair); return p }
func number(err error) (n api.Errno)  { n, _ = err.(api.Errno); return n }
func isNumber(err error) (there bool) { _, there = err.(api.Errno); return there }

// same tells whether two errors are one and the same; such that have no == are held against each other part by part.
func same(a, b error) bool {
	if a == nil || b == nil {
		return a == nil && b == nil
	}
	if reflect.TypeOf(a).Comparable() {
		return a == b
	}
	return reflect.DeepEqual(a, b)
}

// sample is an error, and what the document's words make of it, put together beside it.
type sample struct {
	err        error
	text, said string
	met        []error  // what errors.As comes by, in its order: the error itself, and all in it
	chain      []string // the texts, as far as errors.Unwrap goes
}

// nothing is nil.
func nothing() sample { return sample{} }

// leaf is an error that wraps nothing, and says the same everywhere.
func leaf(err error, text string) sample {
	return sample{err, text, text, []error{err}, []string{text}}
}

// numbered is one of api's numbers.
func numbered(n int) sample {
	s := leaf(api.Errno(n), "error "+strconv.Itoa(n))
	if name := nameOf(known, n); name != "" {
		s.said = name
	}
	return s
}

// linked is a link with what is told ahead of what it wraps.
func linked(err error, ahead string, in sample) sample {
	text := ahead + in.text
	return sample{err, text, ahead + in.said, slices.Concat([]error{err}, in.met), slices.Concat([]string{text}, in.chain)}
}

// faulted is a Fault around a sample, of one of the operations and at one of the tellings.
func faulted(op, at int, in sample) sample {
	o, h := operations[op%len(operations)], tellings[at%len(tellings)]
	return linked(&Fault{o.number, h.h, in.err}, o.name+" "+h.text+": ", in)
}

// placed is a Place around a sample.
func placed(line int, in sample) sample {
	return linked(&Place{line, in.err}, "line "+strconv.Itoa(line)+": ", in)
}

// paired is a Pair of two samples.
func paired(a, b sample) sample {
	err, text := &Pair{a.err, b.err}, a.text+"; "+b.text
	return sample{err, text, a.said + "; " + b.said, slices.Concat([]error{err}, a.met, b.met), []string{text}}
}

// shelled is a sample in an error from outside.
func shelled(text string, in sample) sample {
	err := &shell{text, in.err}
	return sample{err, text, text, slices.Concat([]error{err}, in.met), slices.Concat([]string{text}, in.chain)}
}

// bundled is several samples in an error from outside.
func bundled(text string, in ...sample) sample {
	err := &bundle{text: text}
	s := sample{err: err, text: text, said: text, met: []error{err}, chain: []string{text}}
	for _, x := range in {
		err.list = append(err.list, x.err)
		s.met = append(s.met, x.met...)
	}
	return s
}

// The nil links: each says the empty text, and wraps nothing.
func noFault() sample { return leaf((*Fault)(nil), "") }
func noPlace() sample { return leaf((*Place)(nil), "") }
func noPair() sample  { return leaf((*Pair)(nil), "") }

// ends are errors of every kind that stand at the end of a row.
func ends() []sample {
	l := []sample{
		nothing(), noFault(), noPlace(), noPair(),
		leaf(errors.New("plain"), "plain"), leaf(errors.New(""), ""), leaf(errors.New("error 80"), "error 80"), leaf(errors.New("a\nb; c: \xff"), "a\nb; c: \xff"),
		leaf(row{"x", "y"}, "x,y"), leaf(row(nil), ""), leaf(pointer(80), "error 80"),
		shelled("shell", nothing()), shelled("shell", numbered(80)), shelled("", numbered(7)), shelled("error 1", leaf(row{"x"}, "x")),
		bundled("bundle"), bundled("bundle", nothing(), numbered(30), numbered(40)), bundled("", noFault(), numbered(1)),
		leaf(errors.Join(errors.New("one"), errors.New("two")), "one\ntwo"),
	}
	for _, n := range known {
		l = append(l, numbered(n.number))
	}
	for _, n := range []int{0, -1, 5, 9, 11, 79, 81, 93, 281, math.MinInt, math.MaxInt} {
		l = append(l, numbered(n))
	}
	return l
}

// firstOf is the first error met of which a question is true; nil: none.
func firstOf(met []error, is func(error) bool) error {
	for _, err := range met {
		if is(err) {
			return err
		}
	}
	return nil
}

// look holds all that is told of a sample against what must be.
func look(t *testing.T, s sample) {
	t.Helper()
	if s.err != nil && s.err.Error() != s.text {
		t.Errorf("Error() = %q; want %q", s.err.Error(), s.text)
	}
	if got := Say(s.err); got != s.said {
		t.Errorf("Say(%q) = %q; want %q", s.text, got, s.said)
	}
	if got := Why(s.err); got != number(firstOf(s.met, isNumber)) {
		t.Errorf("Why(%q) = %d", s.text, got)
	}
	lookLinks(t, s)
	chain := s.chain[:min(len(s.chain), 64)]
	if got := Chain(s.err); !slices.Equal(got, chain) {
		t.Errorf("Chain(%q) = %q; want %q", s.text, got, chain)
	}
}

// lookLinks holds what is told of a sample's outermost links against what must be.
func lookLinks(t *testing.T, s sample) {
	t.Helper()
	var at api.Handle
	op, line := 0, 0
	f := faultOf(firstOf(s.met, func(err error) bool { _, is := err.(*Fault); return is }))
	if f != nil {
		at, op = f.At, f.Op
	}
	p := placeOf(firstOf(s.met, func(err error) bool { _, is := err.(*Place); return is }))
	if p != nil {
		line = p.Line
	}
	if got, there := Where(s.err); got != at || there != (f != nil) {
		t.Errorf("Where(%q) = %d, %v; want %d", s.text, got, there, at)
	}
	if got, there := What(s.err); got != op || there != (f != nil) {
		t.Errorf("What(%q) = %d, %v; want %d", s.text, got, there, op)
	}
	if got, there := LineOf(s.err); got != line || there != (p != nil) {
		t.Errorf("LineOf(%q) = %d, %v; want %d", s.text, got, there, line)
	}
}

// finds holds which numbers errors.Is finds in a sample: those that are in it, and of api's no other one.
func finds(t *testing.T, s sample) {
	t.Helper()
	for _, n := range numbers() {
		want := slices.ContainsFunc(s.met, func(err error) bool { return isNumber(err) && int(number(err)) == n })
		if got := errors.Is(s.err, api.Errno(n)); got != want {
			t.Errorf("errors.Is(%q, %d) = %v", s.text, n, got)
		}
	}
}

// The chapter's examples.
func TestExamples(t *testing.T) {
	err := Wrap(api.OpCreate, 1099511627777, api.ErrOverload)
	if err.Error() != "create n0.1: error 80" || Say(err) != "create n0.1: overload" {
		t.Errorf("Wrap: %q, %q", err.Error(), Say(err))
	}
	line := Line(3, err)
	if line.Error() != "line 3: create n0.1: error 80" || Say(line) != "line 3: create n0.1: overload" {
		t.Errorf("Line: %q, %q", line.Error(), Say(line))
	}
	n, there := LineOf(line)
	if Why(line) != 80 || n != 3 || !there {
		t.Errorf("Why %d, LineOf %d, %v", Why(line), n, there)
	}
	if got := Chain(line); !slices.Equal(got, []string{"line 3: create n0.1: error 80", "create n0.1: error 80", "error 80"}) {
		t.Errorf("Chain: %q", got)
	}
	if h, there := Where(line); h != 1099511627777 || !there {
		t.Errorf("Where: %d, %v", h, there)
	}
	if op, there := What(line); op != 1 || !there {
		t.Errorf("What: %d, %v", op, there)
	}
	if !errors.Is(line, api.ErrOverload) || errors.Is(line, api.ErrArg) {
		t.Error("errors.Is")
	}
}

// FA1: nil stays nil, whatever goes with it: an error that is nil itself, not a link that is.
func TestNilStaysNil(t *testing.T) {
	for _, n := range numbers() {
		for _, h := range tellings {
			if err := Wrap(n, h.h, nil); err != nil {
				t.Errorf("Wrap(%d, %d, nil): %v", n, h.h, err)
			}
		}
		if err := Line(n, nil); err != nil {
			t.Errorf("Line(%d, nil): %v", n, err)
		}
	}
	if err := Both(nil, nil); err != nil {
		t.Errorf("Both(nil, nil): %v", err)
	}
}

// FA1: of errors of every kind, links that are nil themselves among them, a Fault with just these fields, a new one each time.
func TestWrap(t *testing.T) {
	for _, s := range ends()[1:] {
		for _, op := range numbers() {
			h := tellings[(op&1023)%len(tellings)].h
			err := Wrap(op, h, s.err)
			f := faultOf(err)
			if f == nil || f.Op != op || f.At != h || !same(f.Err, s.err) || !same(errors.Unwrap(err), s.err) {
				t.Fatalf("Wrap(%d, %d, %q) = %#v", op, h, s.text, err)
			}
			if faultOf(Wrap(op, h, s.err)) == f {
				t.Fatalf("Wrap(%d, %d, %q) is not new", op, h, s.text)
			}
		}
		for _, h := range tellings {
			if f := faultOf(Wrap(7, h.h, s.err)); f == nil || f.Op != 7 || f.At != h.h {
				t.Fatalf("Wrap(7, %d, %q) = %#v", h.h, s.text, f)
			}
		}
	}
}

// FA1: of errors of every kind a Place with just these fields, a new one each time.
func TestLine(t *testing.T) {
	for _, s := range ends()[1:] {
		for _, n := range numbers() {
			err := Line(n, s.err)
			p := placeOf(err)
			if p == nil || p.Line != n || !same(p.Err, s.err) || !same(errors.Unwrap(err), s.err) {
				t.Fatalf("Line(%d, %q) = %#v", n, s.text, err)
			}
			if placeOf(Line(n, s.err)) == p {
				t.Fatalf("Line(%d, %q) is not new", n, s.text)
			}
		}
	}
}

// FA1: with nil on either side the other one itself; else a new Pair of both, in their order, be they one and the same too.
func TestBoth(t *testing.T) {
	for _, a := range ends() {
		for _, b := range ends() {
			err := Both(a.err, b.err)
			switch {
			case a.err == nil:
				if !same(err, b.err) {
					t.Errorf("Both(nil, %q) = %#v", b.text, err)
				}
			case b.err == nil:
				if !same(err, a.err) {
					t.Errorf("Both(%q, nil) = %#v", a.text, err)
				}
			default:
				p := pairOf(err)
				if p == nil || !same(p.A, a.err) || !same(p.B, b.err) || err == Both(a.err, b.err) {
					t.Errorf("Both(%q, %q) = %#v", a.text, b.text, err)
				}
			}
		}
		if p := pairOf(Both(a.err, a.err)); a.err != nil && (p == nil || !same(p.A, a.err) || !same(p.B, a.err)) {
			t.Errorf("Both of %q and itself: %#v", a.text, p)
		}
	}
}

// What a link wraps: its Err, be it nil too; of a Pair both, A first, in new memory.
func TestUnwrap(t *testing.T) {
	for _, a := range ends() {
		f, p := &Fault{1, 2, a.err}, &Place{3, a.err}
		if !same(f.Unwrap(), a.err) || !same(p.Unwrap(), a.err) {
			t.Errorf("%q: %#v, %#v", a.text, f.Unwrap(), p.Unwrap())
		}
		for _, b := range ends() {
			both := &Pair{a.err, b.err}
			for range 2 {
				l := both.Unwrap()
				if len(l) != 2 || !same(l[0], a.err) || !same(l[1], b.err) {
					t.Fatalf("%q, %q: %#v", a.text, b.text, l)
				}
				clear(l[:cap(l)])
			}
		}
	}
}

// A link that is nil itself says the empty text and wraps nothing.
func TestNilLinks(t *testing.T) {
	var f *Fault
	var p *Place
	var both *Pair
	if f.Error() != "" || p.Error() != "" || both.Error() != "" {
		t.Errorf("texts: %q, %q, %q", f.Error(), p.Error(), both.Error())
	}
	if f.Unwrap() != nil || p.Unwrap() != nil || len(both.Unwrap()) != 0 {
		t.Errorf("wrapped: %v, %v, %v", f.Unwrap(), p.Unwrap(), both.Unwrap())
	}
	for _, s := range []sample{noFault(), noPlace(), noPair()} {
		look(t, s)
		finds(t, s)
		if got := Chain(s.err); !slices.Equal(got, []string{""}) {
			t.Errorf("Chain: %q", got)
		}
	}
}

// FA2: handles that may be are told as layer 2 does, others by their numbers.
func TestTold(t *testing.T) {
	for _, h := range tellings {
		if got := Told(h.h); got != h.text {
			t.Errorf("Told(%d) = %q; want %q", h.h, got, h.text)
		}
	}
	for _, kind := range []int{0, 1, 2, 3, 4, 5} {
		for _, slot := range []int{0, 1, 9, 10, 63, 64, 65534, 65535, 65536, 1048575} {
			for _, gen := range []int{0, 1, 9, 10, 1022, 1023, 1024, 1048575} {
				n := kind*1099511627776 + slot*1048576 + gen
				want := "#" + strconv.Itoa(n)
				if kind >= 1 && kind <= 3 && slot <= 65535 && gen >= 1 && gen <= 1023 {
					want = []string{"n", "t", "s"}[kind-1] + strconv.Itoa(slot) + "." + strconv.Itoa(gen)
				}
				if n == 0 {
					want = "-"
				}
				if got := Told(api.Handle(n)); got != want {
					t.Errorf("Told(%d) = %q; want %q", n, got, want)
				}
				if got, want := Told(api.Handle(-n)), "#-"+strconv.Itoa(n); n != 0 && got != want {
					t.Errorf("Told(%d) = %q; want %q", -n, got, want)
				}
			}
		}
	}
}

// FA2: each operation's name; other numbers are told in decimal.
func TestOpName(t *testing.T) {
	for _, n := range numbers() {
		want := nameOf(operations, n)
		if want == "" {
			want = "op " + strconv.Itoa(n)
		}
		if got := OpName(n); got != want {
			t.Errorf("OpName(%d) = %q; want %q", n, got, want)
		}
	}
	for n, want := range map[int]string{
		0: "op 0", 10: "op 10", -1: "op -1", -9: "op -9", 1000: "op 1000", math.MinInt: "op -9223372036854775808", math.MaxInt: "op 9223372036854775807",
	} {
		if got := OpName(n); got != want {
			t.Errorf("OpName(%d) = %q; want %q", n, got, want)
		}
	}
}

// FA2: texts, written out.
func TestTexts(t *testing.T) {
	for _, c := range []struct {
		err  error
		want string
	}{
		{&Fault{1, 1099511627777, api.ErrOverload}, "create n0.1: error 80"},
		{&Fault{9, 2199023255553, errors.New("gone")}, "show t0.1: gone"},
		{&Fault{7, 0, api.ErrTime}, "tick -: error 60"},
		{&Fault{6, 3298534883329, nil}, "job s0.1: "},
		{&Fault{0, -1, nil}, "op 0 #-1: "},
		{&Fault{}, "op 0 -: "},
		{&Fault{10, 1, api.Errno(-3)}, "op 10 #1: error -3"},
		{&Fault{math.MinInt, math.MaxInt, (*Place)(nil)}, "op -9223372036854775808 #9223372036854775807: "},
		{&Place{3, api.ErrWord}, "line 3: error 240"},
		{&Place{0, nil}, "line 0: "},
		{&Place{}, "line 0: "},
		{&Place{-12, (*Pair)(nil)}, "line -12: "},
		{&Place{math.MinInt, api.ErrArg}, "line -9223372036854775808: error 1"},
		{&Place{math.MaxInt, errors.New("")}, "line 9223372036854775807: "},
		{&Pair{api.ErrFull, api.ErrRoom}, "error 40; error 30"},
		{&Pair{nil, api.ErrRoom}, "; error 30"},
		{&Pair{api.ErrFull, nil}, "error 40; "},
		{&Pair{}, "; "},
		{&Pair{(*Fault)(nil), (*Place)(nil)}, "; "},
		{&Pair{&Pair{api.ErrArg, api.ErrForm}, &Pair{errors.New("x"), api.ErrLong}}, "error 1; error 4; x; error 3"},
		{&Place{4, &Pair{&Fault{2, 1099514773511, api.ErrDying}, &Place{5, nil}}}, "line 4: resize n3.7: error 92; line 5: "},
		{&Fault{3, 1099514773511, &Fault{4, 1099514773511, &Place{-1, api.Errno(0)}}}, "delete n3.7: task n3.7: line -1: error 0"},
	} {
		if got := c.err.Error(); got != c.want {
			t.Errorf("Error() = %q; want %q", got, c.want)
		}
	}
}

// FA2: the text of a Fault with each operation's number, each handle; of a Place with each line; around errors of every kind.
func TestTextsOfAll(t *testing.T) {
	for _, s := range ends() {
		for _, op := range numbers() {
			name := nameOf(operations, op)
			if name == "" {
				name = "op " + strconv.Itoa(op)
			}
			h := tellings[(op&1023)%len(tellings)]
			if got, want := (&Fault{op, h.h, s.err}).Error(), name+" "+h.text+": "+s.text; got != want {
				t.Fatalf("a Fault: %q; want %q", got, want)
			}
			if got, want := (&Place{op, s.err}).Error(), "line "+strconv.Itoa(op)+": "+s.text; got != want {
				t.Fatalf("a Place: %q; want %q", got, want)
			}
		}
		for at := range tellings {
			look(t, faulted(at, at, s))
		}
		for _, other := range ends() {
			look(t, paired(s, other))
		}
	}
}

// FA2, FA3: what is told is told of what the fields are now.
func TestFieldsOfNow(t *testing.T) {
	f := faultOf(Wrap(1, 1099511627777, api.ErrFull))
	p := placeOf(Line(4, f))
	both := pairOf(Both(p, api.ErrArg))
	if both.Error() != "line 4: create n0.1: error 40; error 1" || Why(both) != 40 {
		t.Fatalf("%q, %d", both.Error(), Why(both))
	}
	f.Op, f.At, f.Err, p.Line, both.B = 2, 5, api.ErrRoom, 7, nil
	if both.Error() != "line 7: resize #5: error 30; " || Say(both) != "line 7: resize #5: room; " || Why(both) != 30 {
		t.Errorf("%q, %q, %d", both.Error(), Say(both), Why(both))
	}
	at, _ := Where(both)
	op, _ := What(both)
	line, _ := LineOf(both)
	if at != 5 || op != 2 || line != 7 {
		t.Errorf("%d, %d, %d", at, op, line)
	}
}

// FA4: each name and number, one to one; numbers without a name.
func TestNames(t *testing.T) {
	for _, n := range numbers() {
		if got, want := Name(api.Errno(n)), nameOf(known, n); got != want {
			t.Errorf("Name(%d) = %q; want %q", n, got, want)
		}
	}
	for _, k := range known {
		if e, there := Find(k.name); int(e) != k.number || !there {
			t.Errorf("Find(%q) = %d, %v; want %d", k.name, e, there, k.number)
		}
		if e, there := Find(Name(api.Errno(k.number))); int(e) != k.number || !there {
			t.Errorf("Find(Name(%d)) = %d, %v", k.number, e, there)
		}
	}
}

// near are texts that differ from a name by a letter, by a letter's case, by a blank or a point.
func near(name string) []string {
	l := []string{strings.ToUpper(name), strings.ToUpper(name[:1]) + name[1:], name + name, "err" + name, "Err" + name}
	for place := range len(name) + 1 {
		for _, more := range []string{"a", "e", "m", "z", " ", ".", "\x00", "s"} {
			l = append(l, name[:place]+more+name[place:])
			if place < len(name) {
				l = append(l, name[:place]+more+name[place+1:])
			}
		}
		if place < len(name) {
			l = append(l, name[:place]+name[place+1:], name[:place]+strings.ToUpper(name[place:place+1])+name[place+1:], name[:place])
		}
	}
	return l
}

// FA4: other texts are no names.
func TestFindOfOthers(t *testing.T) {
	l := []string{"", " ", "-", "0", "1", "80", "error", "error 1", "error 80", "op", "op 1", "ok", "argument", "errno", "nil", "\n", strings.Repeat("arg", 100000)}
	for _, o := range operations {
		l = append(l, o.name)
	}
	for _, k := range known {
		l = append(l, near(k.name)...)
		l = append(l, strconv.Itoa(k.number), "error "+strconv.Itoa(k.number))
	}
	for _, name := range l {
		want := 0
		for _, k := range known {
			if k.name == name {
				want = k.number
			}
		}
		if e, there := Find(name); int(e) != want || there != (want != 0) {
			t.Errorf("Find(%q) = %d, %v; want %d", name, e, there, want)
		}
	}
}

// FA3, FA4: of errors of every kind that stand alone, with no link of this layer around them.
func TestAlone(t *testing.T) {
	for _, s := range ends() {
		look(t, s)
		finds(t, s)
	}
	if l := Chain(nil); len(l) != 0 {
		t.Errorf("Chain(nil) = %q", l)
	}
	if Say(nil) != "" || Why(nil) != 0 {
		t.Errorf("of nil: %q, %d", Say(nil), Why(nil))
	}
}

// FA4: what Say tells, written out.
func TestSay(t *testing.T) {
	for _, c := range []struct {
		err  error
		want string
	}{
		{api.ErrOverload, "overload"},
		{api.Errno(79), "error 79"},
		{api.Errno(0), "error 0"},
		{api.Errno(-1), "error -1"},
		{errors.New("error 80"), "error 80"},
		{errors.New("any"), "any"},
		{errors.Join(api.ErrFull, api.ErrArg), "error 40\nerror 1"},
		{pointer(80), "error 80"},
		{&shell{"shell of error 80", api.ErrOverload}, "shell of error 80"},
		{&Fault{1, 0, &shell{"in error 80", &Fault{2, 0, api.ErrOverload}}}, "create -: in error 80"},
		{clad{&Fault{1, 0, api.ErrOverload}}, "create -: error 80"},
		{clad{}, ""},
		{&Fault{5, 2199023255553, &Place{2, api.ErrHandle}}, "untask t0.1: line 2: handle"},
		{&Fault{5, -7, nil}, "untask #-7: "},
		{&Fault{80, 80, api.Errno(81)}, "op 80 #80: error 81"},
		{&Place{80, api.ErrLine}, "line 80: line"},
		{&Pair{api.ErrName, api.ErrState}, "name; state"},
		{&Pair{api.Errno(5), api.ErrScript}, "error 5; script"},
		{&Pair{nil, &Pair{api.ErrLate, nil}}, "; late; "},
		{&Place{1, &Pair{&Fault{8, 0, api.ErrRoot}, errors.New("error 91")}}, "line 1: node -: root; error 91"},
	} {
		if got := Say(c.err); got != c.want {
			t.Errorf("Say(%q) = %q; want %q", c.err.Error(), got, c.want)
		}
	}
}

// FA5: rows of Faults and Places of every order, up to six links, around errors of every kind: all that is told of them, and which numbers are found.
func TestEachRow(t *testing.T) {
	for _, end := range ends() {
		for long := 1; long <= 6; long++ {
			for which := range 1 << long {
				s := end
				for link := range long {
					if which>>link&1 == 0 {
						s = faulted(which+link, which*7+link, s)
					} else {
						s = placed(which*10+link-20, s)
					}
				}
				look(t, s)
				if long <= 3 {
					finds(t, s)
				}
			}
		}
	}
}

// FA5: each Errno at the end of a row that Wrap and Line made is found, and of api's numbers no other one, whatever operation, handle and line stand around it.
func TestEachErrno(t *testing.T) {
	for _, k := range known {
		e := api.Errno(k.number)
		for _, n := range numbers() {
			err := Line(n, Wrap(n, api.Handle(n), Line(-n, Wrap(-n, api.Handle(-n), e))))
			if Why(err) != e || !errors.Is(err, e) {
				t.Fatalf("%d with %d: Why %d", e, n, Why(err))
			}
			for _, other := range known {
				if errors.Is(err, api.Errno(other.number)) != (other == k) {
					t.Fatalf("%d with %d: errors.Is of %d", e, n, other.number)
				}
			}
			at, atThere := Where(err)
			op, opThere := What(err)
			line, lineThere := LineOf(err)
			if at != api.Handle(n) || op != n || line != n || !atThere || !opThere || !lineThere {
				t.Fatalf("%d with %d: %d, %v, %d, %v, %d, %v", e, n, at, atThere, op, opThere, line, lineThere)
			}
		}
	}
}

// FA3, FA5: Pairs with the number on either side, on both, on none; alone, in rows and with rows in them.
func TestPairs(t *testing.T) {
	sides := []sample{
		nothing(), numbered(80), numbered(40), numbered(7), numbered(0), leaf(errors.New("other"), "other"), noFault(), noPlace(), noPair(),
		faulted(0, 1, numbered(1)), faulted(1, 2, nothing()), placed(3, numbered(2)), placed(4, nothing()), faulted(2, 3, placed(5, numbered(91))),
		placed(6, faulted(3, 4, numbered(92))), paired(numbered(10), numbered(20)), paired(nothing(), faulted(4, 5, nothing())), shelled("shell", faulted(5, 6, numbered(60))),
		bundled("bundle", placed(8, numbered(50)), faulted(6, 7, numbered(30))),
	}
	for _, a := range sides {
		for _, b := range sides {
			s := paired(a, b)
			for _, x := range []sample{s, faulted(7, 8, s), placed(9, s), placed(10, faulted(8, 9, s)), paired(s, numbered(220)), paired(numbered(220), s), shelled("s", s)} {
				look(t, x)
				finds(t, x)
			}
		}
	}
}

// FA3: written out: the outermost of several; such that lie behind a Pair, the first side first; and that of which the first one is nil.
func TestOutermost(t *testing.T) {
	for _, c := range []struct {
		err     error
		why     api.Errno
		at      api.Handle
		op      int
		faults  bool
		line    int
		places  bool
		comment string
	}{
		{&Fault{1, 11, &Fault{2, 12, &Place{3, &Place{4, api.ErrArg}}}}, 1, 11, 1, true, 3, true, "several"},
		{&Place{3, &Fault{2, 12, &Place{4, &Fault{1, 11, nil}}}}, 0, 12, 2, true, 3, true, "several, without a number"},
		{&Pair{api.ErrFull, &Fault{1, 11, api.ErrArg}}, 40, 11, 1, true, 0, false, "a Fault behind a number"},
		{&Pair{&Fault{1, 11, api.ErrArg}, api.ErrFull}, 1, 11, 1, true, 0, false, "a Fault ahead of a number"},
		{&Pair{&Place{1, &Fault{2, 12, nil}}, &Fault{3, 13, api.ErrFull}}, 40, 12, 2, true, 1, true, "the deeper Fault is first"},
		{&Pair{nil, &Pair{nil, &Place{8, api.ErrTime}}}, 60, 0, 0, false, 8, true, "behind Pairs with nil"},
		{&Pair{(*Fault)(nil), &Fault{3, 13, api.ErrFull}}, 40, 0, 0, false, 0, false, "the first Fault is nil"},
		{&Pair{&Fault{3, 13, api.ErrFull}, (*Fault)(nil)}, 40, 13, 3, true, 0, false, "the second Fault is nil"},
		{&Pair{(*Place)(nil), &Place{3, api.ErrFull}}, 40, 0, 0, false, 0, false, "the first Place is nil"},
		{&Fault{4, 14, &Pair{(*Place)(nil), &Place{3, api.ErrFull}}}, 40, 14, 4, true, 0, false, "the first Place is nil, in a Fault"},
		{&Fault{0, 0, &Place{0, api.Errno(0)}}, 0, 0, 0, true, 0, true, "noughts that are there"},
		{&Fault{4, 14, (*Fault)(nil)}, 0, 14, 4, true, 0, false, "the second one is nil"},
		{&shell{"", &Pair{errors.New("x"), &shell{"", &Place{9, &Fault{5, 15, api.ErrRoom}}}}}, 30, 15, 5, true, 9, true, "behind errors from outside"},
		{errors.Join(api.ErrDepth, &Fault{5, 15, api.ErrRoom}), 90, 15, 5, true, 0, false, "joined"},
		{clad{&Fault{1, 11, &Fault{2, 12, api.ErrArg}}}, 1, 12, 2, true, 0, false, "a Fault in another struct is none"},
		{pointer(80), 0, 0, 0, false, 0, false, "a number's pointer is none"},
	} {
		at, atThere := Where(c.err)
		op, opThere := What(c.err)
		line, lineThere := LineOf(c.err)
		if Why(c.err) != c.why || at != c.at || op != c.op || line != c.line {
			t.Errorf("%s: %d, %d, %d, %d", c.comment, Why(c.err), at, op, line)
		}
		if atThere != c.faults || opThere != c.faults || lineThere != c.places {
			t.Errorf("%s: %v, %v, %v", c.comment, atThere, opThere, lineThere)
		}
	}
}

// FA3: what errors.As takes an error for, by its own word, is what it is.
func TestGuise(t *testing.T) {
	for _, so := range []bool{false, true} {
		for _, around := range []func(error) error{
			func(err error) error { return err },
			func(err error) error { return &Pair{nil, err} },
			func(err error) error { return &shell{"", err} },
		} {
			g := guise{80, &Fault{4, 44, nil}, &Place{Line: 6}, so}
			want := guise{fault: &Fault{}, place: &Place{}}
			if so {
				want = g
			}
			err := around(g)
			at, atThere := Where(err)
			op, opThere := What(err)
			line, lineThere := LineOf(err)
			if Why(err) != want.number || at != want.fault.At || op != want.fault.Op || line != want.place.Line || atThere != so || opThere != so || lineThere != so {
				t.Errorf("%v: %d, %d, %v, %d, %v, %d, %v", so, Why(err), at, atThere, op, opThere, line, lineThere)
			}
			err = around(guise{so: so})
			_, atThere = Where(err)
			_, opThere = What(err)
			_, lineThere = LineOf(err)
			if Why(err) != 0 || atThere || opThere || lineThere {
				t.Errorf("%v: of nil ones: %d, %v, %v, %v", so, Why(err), atThere, opThere, lineThere)
			}
		}
	}
}

// rowOf is a sample in so many links, a Fault and a Place by turns.
func rowOf(many int, s sample) sample {
	for n := range many {
		if n%2 == 0 {
			s = placed(n, s)
		} else {
			s = faulted(n, n, s)
		}
	}
	return s
}

// FA4: chains with texts up to 64 and more: the first 64 of them, the outermost first.
func TestChain(t *testing.T) {
	for _, many := range []int{0, 1, 2, 3, 61, 62, 63, 64, 65, 66, 127, 128, 129, 300} {
		for _, end := range []sample{numbered(80), leaf(errors.New("x"), "x"), noFault(), shelled("y", nothing()), paired(numbered(1), numbered(2))} {
			s := rowOf(many, end)
			look(t, s)
			if got := Chain(s.err); len(got) != min(many+1, 64) {
				t.Errorf("%d links: %d texts", many, len(got))
			}
		}
		s := rowOf(many, nothing())
		look(t, s)
		if got := Chain(s.err); len(got) != min(many, 64) {
			t.Errorf("%d links around nil: %d texts", many, len(got))
		}
	}
	if got := Chain(&Pair{&Fault{1, 0, api.ErrArg}, api.ErrFull}); !slices.Equal(got, []string{"create -: error 1; error 40"}) {
		t.Errorf("Chain of a Pair: %q", got)
	}
	if got := Chain(&Place{1, &Pair{nil, api.ErrFull}}); !slices.Equal(got, []string{"line 1: ; error 40", "; error 40"}) {
		t.Errorf("Chain of a Pair in a Place: %q", got)
	}
	if got := Chain(&shell{"a", &shell{"", &shell{"b", nil}}}); !slices.Equal(got, []string{"a", "", "b"}) {
		t.Errorf("Chain of errors from outside: %q", got)
	}
}

// FA5: errors.Is of what Wrap and Line made, just where it is so of what they wrap, or for that very link.
func TestTheorem(t *testing.T) {
	var all []sample
	for i, end := range ends() {
		all = append(all, end, faulted(i, i, end), placed(i, faulted(i, i, end)), paired(end, placed(i, numbered(40))), shelled("shell", end))
	}
	targets := []error{nil, (*Fault)(nil), (*Place)(nil), (*Pair)(nil), &Fault{}, &Place{}, row{"x", "y"}, pointer(80), errors.New("plain")}
	for _, s := range all {
		targets = append(targets, s.met...)
	}
	for _, s := range all {
		wrapped, line := Wrap(3, 1099511627777, s.err), Line(7, s.err)
		// Like ones that are others.
		targets := append(slices.Clone(targets), Wrap(3, 1099511627777, s.err), Line(7, s.err))
		for _, target := range targets {
			within := errors.Is(s.err, target)
			if got, want := errors.Is(wrapped, target), within || target != nil && reflect.TypeOf(target).Comparable() && target == wrapped; got != want {
				t.Fatalf("errors.Is of a Fault around %q, %#v: %v", s.text, target, got)
			}
			if got, want := errors.Is(line, target), within || target != nil && reflect.TypeOf(target).Comparable() && target == line; got != want {
				t.Fatalf("errors.Is of a Place around %q, %#v: %v", s.text, target, got)
			}
		}
		if s.err != nil && (!errors.Is(wrapped, wrapped) || !errors.Is(line, line)) {
			t.Errorf("a link around %q is not itself", s.text)
		}
	}
}

// FA5: errors.Is finds each link and each number in a row or a Pair; errors.As the first link of its kind, that itself.
func TestFromOutside(t *testing.T) {
	inner := &Fault{2, 3, &shell{"shell", &Place{4, api.ErrNone}}}
	both := &Pair{api.ErrFull, inner}
	outer := &Place{1, &Fault{5, 6, both}}
	for _, target := range []error{inner, both, outer, outer.Err, inner.Err, api.ErrFull, api.ErrNone} {
		if !errors.Is(outer, target) {
			t.Errorf("errors.Is of %#v", target)
		}
	}
	if errors.Is(inner, outer) || errors.Is(both.A, inner) || errors.Is(inner, api.ErrFull) {
		t.Error("errors.Is of what lies above, or beside")
	}
	var f *Fault
	var p *Place
	var pair *Pair
	var e api.Errno
	var s *shell
	if !errors.As(outer, &f) || error(f) != outer.Err || !errors.As(outer, &p) || p != outer || !errors.As(outer, &pair) || pair != both {
		t.Errorf("errors.As: %v, %v, %v", f, p, pair)
	}
	if !errors.As(outer, &e) || e != api.ErrFull || !errors.As(outer, &s) || s != inner.Err {
		t.Errorf("errors.As: %v, %v", e, s)
	}
	if !errors.As(both, &f) || f != inner || !errors.As(both, &p) || p != inner.Err.(*shell).err {
		t.Errorf("errors.As of the Pair: %v, %v", f, p)
	}
	var none *bundle
	if errors.As(outer, &none) || errors.As(&Place{1, nil}, &f) || errors.As((*Pair)(nil), &e) {
		t.Error("errors.As of what is not there")
	}
}

// Rule 1: errors from outside that panic: of them nothing is told, nothing is found.
func TestPanics(t *testing.T) {
	var gone *shell
	for _, bad := range []error{panicText{}, panicText{api.ErrFull}, gone, (*api.Errno)(nil)} {
		for err, want := range map[error]string{
			bad:                        "",
			Wrap(1, 0, bad):            "create -: ",
			Line(2, bad):               "line 2: ",
			Both(bad, api.ErrArg):      "; error 1",
			Line(3, Both(nil, bad)):    "line 3: ",
			Both(&Place{4, nil}, bad):  "line 4: ; ",
			Wrap(9, 7, Both(bad, bad)): "show #7: ; ",
		} {
			if err != bad && err.Error() != want {
				t.Errorf("Error() = %q; want %q", err.Error(), want)
			}
			if got, want := Say(err), strings.Replace(want, "error 1", "arg", 1); got != want {
				t.Errorf("Say = %q; want %q", got, want)
			}
			if got := Chain(err); len(got) == 0 || got[0] != want {
				t.Errorf("Chain = %q; want %q first", got, want)
			}
		}
	}
	if got := Chain(panicText{api.ErrFull}); !slices.Equal(got, []string{"", "error 40"}) {
		t.Errorf("Chain behind one that panics: %q", got)
	}
	if Why(Line(1, panicText{api.ErrFull})) != 40 {
		t.Error("Why behind a text that panics")
	}
	for _, bad := range []error{panicInner{}, panicInAll{}, panicAs{}, gone} {
		for _, err := range []error{bad, &shell{"", bad}, &Pair{nil, bad}, &Pair{bad, api.ErrFull}, &Pair{bad, &Place{1, &Fault{2, 3, nil}}}, &Pair{errors.New("x"), bad}} {
			at, atThere := Where(err)
			op, opThere := What(err)
			line, lineThere := LineOf(err)
			if Why(err) != 0 || at != 0 || op != 0 || line != 0 || atThere || opThere || lineThere {
				t.Errorf("%T: %d, %d, %v, %d, %v, %d, %v", bad, Why(err), at, atThere, op, opThere, line, lineThere)
			}
		}
	}
	err := Line(1, Wrap(2, 3, Both(api.ErrFull, panicInner{})))
	if line, there := LineOf(err); Why(err) != 40 || line != 1 || !there {
		t.Errorf("what lies ahead of one that panics: %d, %d, %v", Why(err), line, there)
	}
	if got := Chain(Line(1, panicInner{})); !slices.Equal(got, []string{"line 1: inner", "inner"}) {
		t.Errorf("Chain to one that panics: %q", got)
	}
	if got := Chain(panicAs{}); !slices.Equal(got, []string{"as", "error 40"}) {
		t.Errorf("Chain through one that panics elsewhere: %q", got)
	}
}

// chance is an error by chance, of so many levels at most.
func chance(r *rand.Rand, levels int) sample {
	if levels == 0 || r.Intn(12) == 0 {
		l := ends()
		return l[r.Intn(len(l))]
	}
	switch r.Intn(12) {
	case 0, 1, 2, 3:
		return faulted(r.Intn(100), r.Intn(1000), chance(r, levels-1))
	case 4, 5, 6:
		return placed(edges[r.Intn(len(edges))]+r.Intn(3)-1, chance(r, levels-1))
	case 7, 8, 9:
		return paired(chance(r, levels-1), chance(r, levels-1))
	case 10:
		return shelled("shell "+strconv.Itoa(r.Intn(9)), chance(r, levels-1))
	default:
		return bundled("bundle", chance(r, levels-1), chance(r, levels-1), chance(r, levels-1))
	}
}

// FA1 to FA5: errors of all shapes by chance, told twice: what is told doesn't hang on what was told before.
func TestByChance(t *testing.T) {
	r := rand.New(rand.NewSource(16))
	for range 1500 {
		s := chance(r, 1+r.Intn(6))
		look(t, s)
		finds(t, s)
		look(t, s)
	}
}

// Rules 1 and 2: rows of as many links as the document's bound allows, one in another, and Pairs of as many.
func TestDeep(t *testing.T) {
	const deep = 1<<16 - 2
	err, length := error(api.ErrOverload), len("error 80")
	for n := range deep {
		if n%2 == 0 {
			err, length = Wrap(7, 0, err), length+len("tick -: ")
		} else {
			err, length = Line(n%10, err), length+len("line 9: ")
		}
	}
	text, said := err.Error(), Say(err)
	if len(text) != length || !strings.HasSuffix(text, "line 1: tick -: error 80") || said != strings.TrimSuffix(text, "error 80")+"overload" {
		t.Errorf("%d bytes; want %d", len(text), length)
	}
	line, there := LineOf(err)
	if Why(err) != 80 || !errors.Is(err, api.ErrOverload) || line != (deep-1)%10 || !there || len(Chain(err)) != 64 {
		t.Errorf("Why %d, LineOf %d, %v", Why(err), line, there)
	}
	left, right := error(api.ErrFull), error(api.ErrFull)
	for range deep {
		left, right = Both(left, api.ErrArg), Both(errors.ErrUnsupported, right)
	}
	if Why(left) != 40 || Why(right) != 40 || Say(left) != "full"+strings.Repeat("; arg", deep) || len(Chain(left)) != 1 {
		t.Errorf("Pairs: %d, %d", Why(left), Why(right))
	}
	if want := strings.Repeat(errors.ErrUnsupported.Error()+"; ", deep) + "error 40"; right.Error() != want {
		t.Errorf("Pairs: %d bytes; want %d", len(right.Error()), len(want))
	}
}

// Rule 3: asking changes nothing, and an answer can be changed with nothing else changed.
func TestAnswersAreApart(t *testing.T) {
	f := &Fault{1, 2, api.ErrFull}
	p := &Place{3, f}
	both := &Pair{p, api.ErrArg}
	for range 3 {
		for _, err := range []error{f, p, both} {
			l := Chain(err)
			clear(l[:cap(l)])
			clear(append(l, "more"))
			Say(err)
			Why(err)
			Where(err)
			What(err)
			LineOf(err)
		}
		faultOf(Wrap(1, 2, f)).Err = nil
		placeOf(Line(1, f)).Err = nil
		pairOf(Both(f, p)).A = nil
		if *f != (Fault{1, 2, api.ErrFull}) || *p != (Place{3, f}) || *both != (Pair{p, api.ErrArg}) {
			t.Fatalf("%v, %v, %v", f, p, both)
		}
		if got := Chain(p); !slices.Equal(got, []string{"line 3: create #2: error 40", "create #2: error 40", "error 40"}) {
			t.Fatalf("Chain: %q", got)
		}
	}
}
