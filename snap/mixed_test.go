package snap_test

import (
	"slices"
	"strconv"
	"testing"

	"levee/api"
	"levee/fast"
	"levee/node"
	"levee/pmem"
	"levee/run"
	"levee/snap"
)

// chance is numbers by a rule: the same ones at each run.
type chance uint64

func (c *chance) below(n int) int {
	*c = *c*6364136223846793005 + 1442695040888963407
	return int(uint64(*c>>33) % uint64(n))
}

// change is what a writer does to a node; none where it may not be done.
type change func(n api.Node) []api.Put

// writer does changes to the node at base, one behind the other, and knows how it stood at each moment.
type writer struct {
	t       *testing.T
	mem     *pmem.Mem
	run     *run.Run
	stores  []api.Put // of the change that is under way
	states  []api.Node
	counted []int // behind how many stores each store to Count was made
	changes []change
}

func writing(t *testing.T, n api.Node, l ...change) *writer {
	t.Helper()
	return &writer{t: t, mem: around(t, n), states: []api.Node{n}, changes: l}
}

// now is how many stores were made.
func (w *writer) now() int {
	return len(w.states) - 1
}

// step does a step, and says whether there was one.
func (w *writer) step() bool {
	w.t.Helper()
	for w.run == nil {
		if len(w.changes) == 0 {
			return false
		}
		w.stores = w.changes[0](w.states[w.now()])
		w.changes = w.changes[1:]
		if len(w.stores) > 0 {
			w.run = run.New(w.mem, 1, w.stores...)
		}
	}
	left := w.run.Left()
	done, e := w.run.Step()
	if e != api.OK {
		w.t.Fatal(e)
	}
	if w.run.Left() < left {
		p := w.stores[len(w.stores)-left]
		n, e := fast.Apply(base, w.states[w.now()], p)
		if e != api.OK {
			w.t.Fatal(e)
		}
		w.states = append(w.states, n)
		if p.At == base+24 {
			w.counted = append(w.counted, w.now())
		}
	}
	if done {
		w.run = nil
	}
	return true
}

// stood holds that a snapshot that is done tells the node, and its bound, as it stood behind from to to stores.
func (w *writer) stood(s *snap.Snap, from, to int) {
	w.t.Helper()
	got, e := s.Node()
	if e != api.OK {
		w.t.Fatal(e)
	}
	high, has := s.High()
	for _, n := range w.states[from : to+1] {
		if cut(n) == got && has == (n.Next != 0) && high == map[api.Addr]uint64{right: 900, far: 700}[n.Next] {
			return
		}
	}
	w.t.Fatalf("%v, %d, %v is not the node at any moment: %v", got, high, has, w.states[from:to+1])
}

// still holds what Still says of a snapshot's node, done behind from stores, whose Next was read again behind next stores, and whose Count was now.
func (w *writer) still(x *snap.Still, n api.Node, from, next int) {
	w.t.Helper()
	if !x.Same() {
		if w.states[next].Next == n.Next && w.states[w.now()].Count == n.Count {
			w.t.Fatal("both are as they were, and it is not still")
		}
		return
	}
	for _, at := range w.counted {
		if at > from {
			w.t.Fatal("a change's first store, or its last one, was made, and all is said to be still")
		}
	}
	if w.states[next].Next != n.Next {
		w.t.Fatal("Next is another one, and all is said to be still")
	}
}

// watched does a snapshot, and Still of it, while turn says, ahead of each step, how many steps the writer does.
func (w *writer) watched(turn func() int) {
	w.t.Helper()
	write := func() {
		for range turn() {
			w.step()
		}
	}
	write()
	s := snap.New(w.mem, base)
	from, done, e := w.now(), false, api.OK
	for !done {
		write()
		if done, e = s.Step(); e != api.OK {
			w.t.Fatal(e)
		}
	}
	to := w.now()
	w.stood(s, from, to)
	n, _ := s.Node()
	x := snap.NewStill(w.mem, base, n)
	write()
	x.Step()
	next := w.now()
	write()
	x.Step()
	w.still(x, n, to, next)
}

// changed is a change, whose stores are none where it is refused.
func changed(do func(n api.Node) ([]api.Put, api.Errno)) change {
	return func(n api.Node) []api.Put {
		l, e := do(n)
		if e != api.OK {
			return nil
		}
		return l
	}
}

func insert(key uint64) change {
	return changed(func(n api.Node) ([]api.Put, api.Errno) { return fast.Insert(base, n, key, api.Addr(20000+64*key)) })
}

func remove(key uint64) change {
	return changed(func(n api.Node) ([]api.Put, api.Errno) { return fast.Delete(base, n, key) })
}

func swap(key uint64, ptr api.Addr) change {
	return changed(func(n api.Node) ([]api.Put, api.Errno) { return fast.Swap(base, n, key, ptr) })
}

func cutFrom(high uint64) change {
	return changed(func(n api.Node) ([]api.Put, api.Errno) { return fast.Cut(base, n, high) })
}

func link(next api.Addr) change {
	return changed(func(n api.Node) ([]api.Put, api.Errno) { return fast.Link(base, n, next) })
}

func repair(n api.Node) []api.Put {
	return changed(func(n api.Node) ([]api.Put, api.Errno) { return fast.Repair(base, n) })(n)
}

// torn is a node behind some stores of a change, as a crash may leave it.
func torn(t *testing.T, n api.Node, l []api.Put, stores int) api.Node {
	t.Helper()
	n, e := fast.Apply(base, n, l[:stores]...)
	if e != api.OK {
		t.Fatal(e)
	}
	return n
}

// once is what a writer may do to nodes of each kind, in a few changes.
func once(t *testing.T) map[string]func() *writer {
	l := map[string]func() *writer{}
	for _, entries := range []int{0, 1, 3, 7} {
		for _, key := range []uint64{5, 25, 95} {
			l["insert "+strconv.Itoa(entries)+" "+strconv.FormatUint(key, 10)] = func() *writer {
				return writing(t, some(entries, 0, right), insert(key), remove(key))
			}
		}
	}
	for _, entries := range []int{1, 4, 8} {
		for _, key := range []uint64{10, 40, 80} {
			l["remove "+strconv.Itoa(entries)+" "+strconv.FormatUint(key, 10)] = func() *writer {
				return writing(t, some(entries, 1, 0), remove(key), insert(key))
			}
		}
	}
	n := some(5, 0, right)
	l["swap"] = func() *writer { return writing(t, n, swap(20, 5), swap(20, n.Ptrs[1])) }
	l["cut"] = func() *writer { return writing(t, n, cutFrom(30), insert(45)) }
	l["link"] = func() *writer { return writing(t, n, link(far), link(right)) }
	l["link none"] = func() *writer { return writing(t, n, link(0), link(right)) }
	half := torn(t, n, insert(25)(n), 5)
	l["repair"] = func() *writer { return writing(t, half, repair, insert(25)) }
	return l
}

// P11.3: wherever a writer goes on within a snapshot, for however long, and then the snapshot to its end.
func TestEveryPause(t *testing.T) {
	for name, begin := range once(t) {
		total := 0
		for w := begin(); w.step(); {
			total++
		}
		for ahead := range total + 1 {
			for at := range 46 {
				for n := 1; ahead+n <= total; n += 1 + total/4 {
					turns := 0
					w := begin()
					w.watched(func() int {
						turns++
						switch turns {
						case 1:
							return ahead
						case at + 2:
							return n
						}
						return 0
					})
				}
			}
		}
		if t.Failed() {
			t.Fatal(name)
		}
	}
}

// any is some changes, of which many do what another one undoes.
func (c *chance) any(n int) []change {
	var l []change
	for range n {
		key := uint64(10 * (1 + c.below(10)))
		switch c.below(9) {
		case 0, 1, 2:
			l = append(l, insert(key))
		case 3, 4, 5:
			l = append(l, remove(key))
		case 6:
			l = append(l, swap(key, api.Addr(64*(1+c.below(6)))))
		case 7:
			l = append(l, link([]api.Addr{0, right, far}[c.below(3)]))
		case 8:
			l = append(l, cutFrom(key))
		}
	}
	return l
}

// P11.3: so it is where the two are mixed step by step, the writer faster than whoever reads, as fast, or slower.
func TestMixed(t *testing.T) {
	for seed := range 4000 {
		c := chance(seed)
		n := some(c.below(api.Fan+1), c.below(2), []api.Addr{0, right, far}[c.below(3)])
		if c.below(3) == 0 {
			key := uint64(15 + 10*c.below(8))
			if l := insert(key)(n); len(l) > 0 {
				n = torn(t, n, l, c.below(len(l)))
			}
		}
		w := writing(t, n, append([]change{repair}, c.any(1+c.below(12))...)...)
		slow, most := 1+c.below(40), 1+c.below(30)
		w.watched(func() int {
			if c.below(slow) == 0 {
				return c.below(most + 1)
			}
			return 0
		})
	}
}

// P11.3: several who read are each told the node as it stood at a moment of its own; a snapshot that is begun behind another one's end tells nothing elder.
func TestSeveral(t *testing.T) {
	for seed := range 1500 {
		c := chance(9000 + seed)
		w := writing(t, some(c.below(api.Fan), 0, right), c.any(1+c.below(10))...)
		type under struct {
			s    *snap.Snap
			from int
		}
		var l []under
		for ended := 0; ended < 6; {
			switch i := c.below(8); {
			case i < 3:
				w.step()
			case len(l) < 3:
				l = append(l, under{snap.New(w.mem, base), w.now()})
			default:
				k := c.below(len(l))
				done, e := l[k].s.Step()
				if e != api.OK {
					t.Fatal(e)
				}
				if done {
					w.stood(l[k].s, l[k].from, w.now())
					l = slices.Delete(l, k, k+1)
					ended++
				}
			}
		}
	}
}

// P11.3: where a change goes on and on, its node may be whole, but for an entry that is not valid, at whatever moment a snapshot tells.
func TestMayBe(t *testing.T) {
	for seed := range 1500 {
		c := chance(20000 + seed)
		w := writing(t, some(c.below(api.Fan), 0, right), c.any(8)...)
		s := snap.New(w.mem, base)
		for done := false; !done; done, _ = s.Step() {
			if c.below(12) == 0 {
				w.step()
			}
		}
		n, _ := s.Node()
		if !node.May(n, 0, false) {
			t.Fatal(node.Text(n), n)
		}
	}
}
