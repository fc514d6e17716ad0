package kernel

import (
	"math/rand"
	"slices"
	"testing"

	"tithe/api"
)

// some is one of a list, now and then a number that is no handle of anything.
func some(r *rand.Rand, l []api.Handle) api.Handle {
	if len(l) == 0 || r.Intn(25) == 0 {
		return strangers[r.Intn(len(strangers))]
	}
	return l[r.Intn(len(l))]
}

// reserve is a reservation: mostly a small one, sometimes none.
func reserve(r *rand.Rand) api.Reserve {
	switch r.Intn(12) {
	case 0:
		return reservations[r.Intn(len(reservations))]
	case 1:
		p := 1 + r.Intn(mostPeriod)
		return api.Reserve{Q: 1 + r.Intn(p), P: p}
	}
	p := 1 + r.Intn(9)
	return api.Reserve{Q: 1 + r.Intn((p+1)/2), P: p}
}

// job is a job, sometimes none.
func job(r *rand.Rand) api.Job {
	j := api.Job{Length: 1 + r.Intn(6), Due: r.Intn(3) * r.Intn(8), At: r.Intn(50) - 5}
	if r.Intn(3) == 0 {
		j.Cap = 1 + r.Intn(6)
	}
	if r.Intn(20) == 0 {
		j.Length = -j.Length + 1
	}
	return j
}

// place is a node that is there, or 0 for the best-effort tasks.
func (p *pair) place(r *rand.Rand) api.Handle {
	return some(r, append(p.k.All(), 0, 0))
}

// tasksAt are the tasks of a place.
func (p *pair) tasksAt(at api.Handle) []api.Handle {
	if at == 0 {
		return p.k.Slack()
	}
	n, _ := p.k.Node(at)
	return n.Tasks
}

// work does an operation on tasks, by chance, at a place.
func (p *pair) work(r *rand.Rand, at api.Handle) {
	p.t.Helper()
	switch r.Intn(6) {
	case 0:
		p.task(at, r.Intn(mostPrio+3)-1)
	case 1:
		p.task(at, r.Intn(3))
	case 2:
		if r.Intn(3) == 0 {
			p.untask(at, some(r, p.tasksAt(at)))
		}
	default:
		p.job(at, some(r, p.tasksAt(at)), job(r))
	}
}

// shape does an operation on nodes, by chance.
func (p *pair) shape(r *rand.Rand) {
	p.t.Helper()
	at := some(r, p.k.All())
	switch r.Intn(8) {
	case 0, 1, 2, 3:
		p.create(at, reserve(r))
	case 4, 5, 6:
		p.resize(at, reserve(r))
	default:
		p.remove(at)
	}
}

// stir does so many operations by chance.
func (p *pair) stir(r *rand.Rand, many int) {
	p.t.Helper()
	for range many {
		switch r.Intn(10) {
		case 0:
			p.shape(r)
		case 1, 2, 3:
			p.work(r, p.place(r))
		default:
			p.tick()
		}
	}
	p.check()
}

// TestRows: rows of calls by chance, held against the model.
func TestRows(t *testing.T) {
	for seed := range int64(40) {
		r := rand.New(rand.NewSource(seed))
		p := made(t)
		for range 60 {
			p.stir(r, 25)
		}
	}
}

// TestRowsOfNodes: many nodes that come and go.
func TestRowsOfNodes(t *testing.T) {
	for seed := range int64(20) {
		r := rand.New(rand.NewSource(seed))
		p := made(t)
		for range 400 {
			for range 3 {
				p.shape(r)
			}
			p.ticks(1 + r.Intn(3))
		}
		p.check()
	}
}

// TestEachRow: each row of four out of a dozen operations, and ticks behind it.
func TestEachRow(t *testing.T) {
	ops := []func(p *pair){
		func(p *pair) { p.tick() },
		func(p *pair) { p.create(rootHandle, api.Reserve{Q: 1, P: 2}) },
		func(p *pair) { p.create(rootHandle, api.Reserve{Q: 1, P: 1}) },
		func(p *pair) { p.create(nodeAt(1, 1), api.Reserve{Q: 1, P: 1}) },
		func(p *pair) { p.resize(nodeAt(1, 1), api.Reserve{Q: 1, P: 2}) },
		func(p *pair) { p.resize(nodeAt(1, 1), api.Reserve{Q: 2, P: 2}) },
		func(p *pair) { p.resize(nodeAt(2, 1), api.Reserve{Q: 1, P: 3}) },
		func(p *pair) { p.remove(nodeAt(1, 1)) },
		func(p *pair) { p.task(nodeAt(1, 1), 0); p.job(nodeAt(1, 1), taskAt(0, 1), api.Job{Length: 1}) },
		func(p *pair) { p.task(0, 0); p.job(0, slackAt(0, 1), api.Job{Length: 2, Cap: 1, Due: 1}) },
		func(p *pair) { p.untask(nodeAt(1, 1), taskAt(0, 1)) },
		func(p *pair) { p.k = p.again().k },
	}
	var grow func(p *pair, left int)
	grow = func(p *pair, left int) {
		p.check()
		if left == 0 {
			p.ticks(3)
			p.check()
			return
		}
		for _, op := range ops {
			next := p.twin()
			op(next)
			grow(next, left-1)
		}
	}
	grow(made(t), 4)
}

// even tells whether all accounts are even, reckoned from what Node tells.
func even(k *Kernel) bool {
	for _, h := range k.All() {
		n, err := k.Node(h)
		if err != nil {
			return false
		}
		sum := n.Acc.Own + n.Closed.Given
		for _, kid := range n.Kids {
			below, err := k.Node(kid)
			if err != nil {
				return false
			}
			sum += below.Acc.Given
		}
		if n.Acc.Given != sum || n.Acc.Given != n.Clock || n.Closed.Own != n.Closed.Given || n.Acc.Lent > n.Acc.Own {
			return false
		}
	}
	root, err := k.Node(k.Root())
	return err == nil && root.Acc.Given == k.Now()
}

// watch is a row by chance of which each period of each node is counted, beside what the marks tell.
type watch struct {
	*pair
	inForce map[api.Handle]int        // the Q of the period that runs
	had     map[api.Handle]int        // the ticks supplied in it
	parents map[api.Handle]api.Handle // of all nodes that there ever were
	ends    int
}

// creates makes a node, perhaps: its first period begins.
func (w *watch) creates(at api.Handle, r api.Reserve) {
	w.t.Helper()
	if h, number := w.create(at, r); number == 0 {
		w.parents[h], w.inForce[h], w.had[h] = at, r.Q, 0
	}
}

// step is a tick: each period that ends with it had just its Q.
func (w *watch) step() {
	w.t.Helper()
	marks, _ := w.tick()
	for h := marks[0].Node; h != 0; h = w.parents[h] {
		w.had[h]++
	}
	for _, m := range marks {
		if m.Kind != api.MarkEnd {
			continue
		}
		w.ends++
		if m.N != w.inForce[m.Node] || w.had[m.Node] != m.N {
			w.t.Fatalf("at %d the period of %v: the mark tells %d, it had %d, in force was %d", m.Tick, m.Node, m.N, w.had[m.Node], w.inForce[m.Node])
		}
		if n, err := w.k.Node(m.Node); err == nil {
			w.inForce[m.Node], w.had[m.Node] = n.Now.Q, 0
		}
	}
	if !even(w.k) {
		w.t.Fatalf("at %d: the accounts are not even", w.k.Now())
	}
}

// TestExactlyTheBudget: KN7: whatever is done, each complete period is supplied just the Q that was in force.
func TestExactlyTheBudget(t *testing.T) {
	ends := 0
	for seed := range int64(25) {
		r := rand.New(rand.NewSource(seed))
		w := &watch{made(t), map[api.Handle]int{}, map[api.Handle]int{}, map[api.Handle]api.Handle{}, 0}
		for range 1200 {
			switch at := some(r, w.k.All()); r.Intn(16) {
			case 0, 1:
				w.creates(at, reserve(r))
			case 2:
				w.resize(at, reserve(r))
			case 3:
				if r.Intn(3) == 0 {
					w.remove(at)
				}
			case 4, 5:
				w.work(r, w.place(r))
			default:
				w.step()
			}
		}
		ends += w.ends
	}
	if ends < 10000 {
		t.Errorf("%d periods alone", ends)
	}
}

// TestFullLoad: the whole is reserved at each level, by reservations of all sorts; no period has less.
func TestFullLoad(t *testing.T) {
	p := made(t)
	level := []api.Handle{rootHandle}
	rows := [][]api.Reserve{
		{{Q: 1, P: 2}, {Q: 1, P: 4}, {Q: 1, P: 8}, {Q: 2, P: 16}},
		{{Q: 3, P: 4}, {Q: 1, P: 4}},
		{{Q: 1, P: 8}, {Q: 7, P: 8}},
	}
	for _, row := range rows {
		var next []api.Handle
		for _, at := range level {
			for _, x := range row {
				next = append(next, p.makes(at, x.Q, x.P))
			}
			if units, _ := p.k.Reserved(at); units != whole {
				t.Fatalf("%d of the whole", units)
			}
		}
		level = next
	}
	for range 2000 {
		for _, m := range p.ticks(1) {
			if m.Kind == api.MarkFree {
				t.Fatalf("a tick is free: %v", m)
			}
			if m.Kind == api.MarkEnd {
				if n, _ := p.k.Node(m.Node); n.Now.Q != m.N {
					t.Fatalf("%v had %d", n, m.N)
				}
			}
		}
	}
	p.check()
}

// seen is all that can be asked of a node's part.
func seen(k *Kernel, part []api.Handle) ([]api.Node, []api.Task) {
	var nodes []api.Node
	var tasks []api.Task
	for _, h := range part {
		n, _ := k.Node(h)
		nodes = append(nodes, n)
		for _, x := range n.Tasks {
			got, _ := k.TaskOf(h, x)
			tasks = append(tasks, got)
		}
	}
	return nodes, tasks
}

// apart does tasks' operations at both of two: the same within a part, elsewhere unlike ones.
func apart(r *rand.Rand, one, other *pair, part []api.Handle) {
	both := r.Int63()
	if r.Intn(2) == 0 {
		at := part[r.Intn(len(part))]
		one.work(rand.New(rand.NewSource(both)), at)
		other.work(rand.New(rand.NewSource(both)), at)
		return
	}
	for _, p := range []*pair{one, other} {
		if at := p.place(r); !slices.Contains(part, at) {
			p.work(r, at)
		}
	}
}

// TestNoninterference: KN7: two rows that agree but for what tasks outside of a node do give it, and what is below it, the same.
func TestNoninterference(t *testing.T) {
	steps := 0
	for seed := range int64(60) {
		r := rand.New(rand.NewSource(seed))
		one, other := made(t), made(t)
		for range 30 {
			both := r.Int63()
			one.shape(rand.New(rand.NewSource(both)))
			other.shape(rand.New(rand.NewSource(both)))
		}
		all := one.k.All()
		node := all[r.Intn(len(all))]
		for range 600 {
			if one.m.at(node) == nil {
				break
			}
			part := one.m.part(node)
			switch both := r.Int63(); r.Intn(20) {
			case 0:
				one.shape(rand.New(rand.NewSource(both)))
				other.shape(rand.New(rand.NewSource(both)))
			case 1, 2, 3, 4, 5, 6, 7:
				apart(r, one, other, part)
			default:
				one.tick()
				other.tick()
			}
			steps++
			nodes, tasks := seen(one.k, part)
			nodes2, tasks2 := seen(other.k, part)
			if !slices.EqualFunc(nodes, nodes2, sameNode) || !slices.EqualFunc(tasks, tasks2, sameTask) {
				t.Fatalf("seed %d at %d: the node's part is not the same", seed, one.k.Now())
			}
		}
	}
	if steps < 10000 {
		t.Errorf("%d steps alone", steps)
	}
}

// FuzzCalls: rows of calls out of bytes, held against the model.
func FuzzCalls(f *testing.F) {
	f.Add(int64(1), uint8(200))
	f.Fuzz(func(t *testing.T, seed int64, many uint8) {
		p := made(t)
		p.stir(rand.New(rand.NewSource(seed)), int(many))
	})
}
