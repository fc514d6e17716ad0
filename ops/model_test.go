package ops

import (
	"errors"
	"fmt"
	"math/big"
	"reflect"
	"regexp"
	"strings"
	"testing"

	"tithe/api"
	"tithe/kernel"
)

// What the document writes: a handle is kind * kindFactor + slot * slotFactor + generation; the limits that operations meet.
const (
	kindFactor = 1099511627776
	slotFactor = 1048576
	mostSlot   = 65535
	lastGen    = 1023
	mostPeriod = 1048576
	mostNodes  = 64
	mostDepth  = 8
	mostTasks  = 8
	mostSlack  = 16
	mostJobs   = 8
	longest    = 1048576
	mostPrio   = 31
	mostTicks  = 1073741824
	mostBurst  = 4096
	mostLines  = 4096
	mostRead   = 256
)

// The kinds, by their numbers in the document.
const (
	create = 1 + iota
	resize
	remove
	addTask
	untask
	addJob
	ticks
	node
	show
)

// rootHandle is the root's, as chapter 9 says it.
const rootHandle = api.Handle(kindFactor + 1)

// nodeAt, taskAt and slackAt are handles as chapter 2 says them.
func nodeAt(slot, gen int) api.Handle  { return api.Handle(kindFactor + slot*slotFactor + gen) }
func taskAt(slot, gen int) api.Handle  { return api.Handle(2*kindFactor + slot*slotFactor + gen) }
func slackAt(slot, gen int) api.Handle { return api.Handle(3*kindFactor + slot*slotFactor + gen) }

// kindNames are chapter 16's, by the kinds' numbers.
var kindNames = []string{"", "create", "resize", "delete", "task", "untask", "job", "tick", "node", "show"}

// ownFields tells which fields a kind has: At, Task, Reserve, Job, N.
var ownFields = []string{"", "AR", "AR", "A", "AN", "AT", "ATJ", "N", "A", "AT"}

// errorNames are chapter 16's, by the errors' numbers.
var errorNames = map[int]string{
	1: "arg", 2: "range", 3: "long", 4: "form", 10: "overflow", 20: "handle", 30: "room", 40: "full", 50: "none", 60: "time",
	80: "overload", 90: "depth", 91: "root", 92: "dying", 220: "late", 240: "word", 250: "line", 251: "name", 270: "state", 280: "script",
}

// isOne tells whether a kind is one.
func isOne(kind int) bool { return 1 <= kind && kind <= 9 }

// mayBe tells whether a handle may be, by its parts.
func mayBe(h api.Handle) bool {
	kind, slot, gen := int(h)/kindFactor, int(h)%kindFactor/slotFactor, int(h)%slotFactor
	return h > 0 && 1 <= kind && kind <= 3 && slot <= mostSlot && 1 <= gen && gen <= lastGen
}

// told is a handle as text.
func told(h api.Handle) string {
	switch {
	case h == 0:
		return "-"
	case !mayBe(h):
		return fmt.Sprintf("#%d", int(h))
	}
	return fmt.Sprintf("%c%d.%d", "-nts"[int(h)/kindFactor], int(h)%kindFactor/slotFactor, int(h)%slotFactor)
}

// cleaned is what Clean must answer.
func cleaned(o api.Op) api.Op {
	if !isOne(o.Kind) {
		return api.Op{}
	}
	has := func(field string) bool { return strings.Contains(ownFields[o.Kind], field) }
	if !has("A") {
		o.At = 0
	}
	if !has("T") {
		o.Task = 0
	}
	if !has("R") {
		o.Reserve = api.Reserve{}
	}
	if !has("J") {
		o.Job = api.Job{}
	}
	if !has("N") {
		o.N = 0
	}
	o.Job.At = 0
	return o
}

// valid is the number of what Valid must answer.
func valid(o api.Op) int {
	switch {
	case !isOne(o.Kind):
		return 1
	case o.Kind == ticks && !(0 < o.N && o.N < mostBurst+1):
		return 2
	}
	return 0
}

// textOf is what Text must answer.
func textOf(o api.Op) string {
	if !isOne(o.Kind) {
		return ""
	}
	text := kindNames[o.Kind]
	for _, field := range ownFields[o.Kind] {
		switch field {
		case 'A':
			text += " " + told(o.At)
		case 'T':
			text += " " + told(o.Task)
		case 'R':
			text += fmt.Sprintf(" %d/%d", o.Reserve.Q, o.Reserve.P)
		case 'J':
			text += fmt.Sprintf(" %d %d %d", o.Job.Length, o.Job.Cap, o.Job.Due)
		case 'N':
			text += fmt.Sprintf(" %d", o.N)
		}
	}
	return text
}

// The forms that words can have.
const (
	numberForm = `(0|-?[1-9][0-9]*)`
	handleForm = `(-|[nts](?:0|[1-9][0-9]*)\.[1-9][0-9]*|#-?[1-9][0-9]*)`
)

// forms are those of the kinds' texts.
var forms = func() []*regexp.Regexp {
	l := make([]*regexp.Regexp, len(kindNames))
	for kind, name := range kindNames {
		text := name
		for _, field := range ownFields[kind] {
			text += " " + map[rune]string{'A': handleForm, 'T': handleForm, 'R': numberForm + "/" + numberForm, 'J': numberForm + " " + numberForm + " " + numberForm, 'N': numberForm}[field]
		}
		l[kind] = regexp.MustCompile(`\A` + text + `\z`)
	}
	return l
}()

// intOf is the number that a text tells; whether an int holds it.
func intOf(s string) (int, bool) {
	n, ok := new(big.Int).SetString(s, 10)
	if !ok || !n.IsInt64() {
		return 0, false
	}
	return int(n.Int64()), true
}

// handleOf is the handle that a word tells that has its form; whether there is one.
func handleOf(s string) (api.Handle, bool) {
	if s == "-" {
		return 0, true
	}
	if s[0] == '#' {
		n, ok := intOf(s[1:])
		return api.Handle(n), ok && !mayBe(api.Handle(n))
	}
	slotText, genText, _ := strings.Cut(s[1:], ".")
	slot, fine := intOf(slotText)
	gen, good := intOf(genText)
	if !fine || !good || slot > mostSlot || gen > lastGen {
		return 0, false
	}
	return api.Handle((strings.Index("nts", s[:1])+1)*kindFactor + slot*slotFactor + gen), true
}

// read is what Read must answer, and the number of its error.
func read(s string) (api.Op, int) {
	if len(s) > mostRead {
		return api.Op{}, 3
	}
	for kind := create; kind <= show; kind++ {
		words := forms[kind].FindStringSubmatch(s)
		if words == nil {
			continue
		}
		o, fine := api.Op{Kind: kind}, true
		next := func() string { words = words[1:]; return words[0] }
		aNumber := func() int { n, ok := intOf(next()); fine = fine && ok; return n }
		aHandle := func() api.Handle { h, ok := handleOf(next()); fine = fine && ok; return h }
		for _, field := range ownFields[kind] {
			switch field {
			case 'A':
				o.At = aHandle()
			case 'T':
				o.Task = aHandle()
			case 'R':
				o.Reserve.Q, o.Reserve.P = aNumber(), aNumber()
			case 'J':
				o.Job.Length, o.Job.Cap, o.Job.Due = aNumber(), aNumber(), aNumber()
			case 'N':
				o.N = aNumber()
			}
		}
		if fine {
			return o, 0
		}
	}
	return api.Op{}, 4
}

// numbers are the account's, in the order of its fields.
func numbers(a api.Account) string {
	return fmt.Sprintf("%d %d %d %d %d %d", a.Given, a.Own, a.Lent, a.Done, a.Cut, a.Late)
}

// tell is what Tell must answer, but for tasks that may not be.
func tell(o api.Op, a api.Answer) string {
	if a.Err != 0 {
		if name, has := errorNames[a.Err]; has {
			return "error " + name
		}
		return fmt.Sprintf("error %d", a.Err)
	}
	switch o.Kind {
	case create, addTask:
		return told(a.Handle)
	case node:
		return tellsNode(a.Node)
	case show:
		text := fmt.Sprintf("prio %d given %d done %d cut %d late %d", a.Task.Prio, a.Task.Acc.Given, a.Task.Acc.Done, a.Task.Acc.Cut, a.Task.Acc.Late)
		for _, j := range a.Task.Jobs {
			text += fmt.Sprintf(" [%d", j.Length)
			if j.Cap > 0 {
				text += fmt.Sprintf(" cap %d", j.Cap)
			}
			text += fmt.Sprintf(" at %d", j.At)
			if j.Due > 0 {
				text += fmt.Sprintf(" due %d", j.Due)
			}
			text += "]"
		}
		return text
	}
	return "ok"
}

// tellsNode is a node as Tell must tell it.
func tellsNode(n api.Node) string {
	words := []string{"parent", told(n.Parent)}
	if n.Now.Q != 0 || n.Now.P != 0 {
		words = append(words, "now", fmt.Sprintf("%d/%d", n.Now.Q, n.Now.P))
		if n.Next.Q != 0 || n.Next.P != 0 {
			words = append(words, "next", fmt.Sprintf("%d/%d", n.Next.Q, n.Next.P))
		}
		if n.Dying {
			words = append(words, "dying")
		}
		words = append(words, fmt.Sprintf("left %d from %d to %d", n.Left, n.Start, n.End))
	}
	words = append(words, fmt.Sprintf("clock %d", n.Clock), "given", numbers(n.Acc), "closed", numbers(n.Closed), "kids")
	for _, h := range n.Kids {
		words = append(words, told(h))
	}
	words = append(words, "tasks")
	for _, h := range n.Tasks {
		words = append(words, told(h))
	}
	return strings.Join(words, " ")
}

// alike tells whether two answers are, a list of no elements being as none.
func alike(a, b api.Answer) bool {
	for _, x := range []*api.Answer{&a, &b} {
		x.Node.Kids = append([]api.Handle(nil), x.Node.Kids...)
		x.Node.Tasks = append([]api.Handle(nil), x.Node.Tasks...)
		x.Task.Jobs = append([]api.Job(nil), x.Task.Jobs...)
	}
	return reflect.DeepEqual(a, b)
}

// why is the number that is in a kernel's error.
func why(err error) int {
	for number := range errorNames {
		if errors.Is(err, api.Errno(number)) {
			return number
		}
	}
	return 0
}

// called is what Apply must answer: the kernel's own calls are made.
func called(k *kernel.Kernel, o api.Op) api.Answer {
	if number := valid(o); number != 0 {
		return api.Answer{Err: number}
	}
	if k == nil {
		return api.Answer{Err: 1}
	}
	var a api.Answer
	var err error
	switch o.Kind {
	case create:
		a.Handle, err = k.Create(o.At, o.Reserve)
	case resize:
		err = k.Resize(o.At, o.Reserve)
	case remove:
		err = k.Delete(o.At)
	case addTask:
		a.Handle, err = k.Task(o.At, o.N)
	case untask:
		err = k.Untask(o.At, o.Task)
	case addJob:
		err = k.Job(o.At, o.Task, o.Job)
	case ticks:
		for i := 0; i < o.N && err == nil; i++ {
			_, err = k.Tick()
		}
	case node:
		a.Node, err = k.Node(o.At)
	case show:
		a.Task, err = k.TaskOf(o.At, o.Task)
	}
	if err != nil {
		return api.Answer{Err: why(err)}
	}
	return a
}

// stateOf is all that a kernel tells, as one text.
func stateOf(k *kernel.Kernel) string { return fmt.Sprint(k.State()) }

// want does an operation and holds its answer, and the kernel behind it, against the kernel's own calls.
func want(t *testing.T, k *kernel.Kernel, o api.Op) api.Answer {
	t.Helper()
	other := k.Clone()
	expected := called(other, o)
	got := Apply(k, o)
	if !alike(got, expected) {
		t.Fatalf("%q: %v, not %v", textOf(o), got, expected)
	}
	if state, other := stateOf(k), stateOf(other); state != other {
		t.Fatalf("%q: the kernel is %s, not %s", textOf(o), state, other)
	}
	return got
}

// done does an operation that must answer no error.
func done(t *testing.T, k *kernel.Kernel, o api.Op) api.Answer {
	t.Helper()
	a := want(t, k, o)
	if a.Err != 0 {
		t.Fatalf("%q: error %d", textOf(o), a.Err)
	}
	return a
}

// wantError does an operation that must answer an error, and change nothing.
func wantError(t *testing.T, k *kernel.Kernel, o api.Op, number api.Errno) {
	t.Helper()
	before := stateOf(k)
	if got := Apply(k, o); !reflect.DeepEqual(got, api.Answer{Err: int(number)}) {
		t.Fatalf("%q: %v, not the error %d alone", textOf(o), got, int(number))
	}
	if after := stateOf(k); after != before {
		t.Fatalf("%q: it answers an error, and %s is %s now", textOf(o), before, after)
	}
	if again := called(k, o); again.Err != int(number) {
		t.Fatalf("%q: the kernel's own call answers %v", textOf(o), again)
	}
}

// late is a kernel with its root alone, behind so many ticks.
func late(t *testing.T, now int) *kernel.Kernel {
	t.Helper()
	s := kernel.New().State()
	s.Now, s.Idle = now, now
	s.Nodes[0].Clock, s.Nodes[0].Acc = now, api.Account{Given: now, Own: now}
	k, err := kernel.Load(s)
	if err != nil {
		t.Fatal(err)
	}
	return k
}
