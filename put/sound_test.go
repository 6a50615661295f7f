package put_test

import (
	"slices"
	"testing"

	"levee/api"
	"levee/geo"
	"levee/node"
	"levee/slab"
	"levee/super"
	"levee/value"
)

// looked is what is found in some bytes.
type looked struct {
	t      *testing.T
	image  []byte
	blocks *slab.Slab
	levels [][]spot // the chains, from the root's level on down
	reach  []api.Addr
	has    map[uint64]string
}

// sound holds that some bytes may be an image (23), and that each block that is reached is in use; it tells what is reached.
func sound(t *testing.T, image []byte) *looked {
	t.Helper()
	s, e := slab.Of(image)
	if e != api.OK {
		t.Fatal("its headers may not be:", e)
	}
	l := &looked{t: t, image: image, blocks: s, has: map[uint64]string{}}
	l.super()
	root := api.Addr(wordAt(t, image, super.RootAt()))
	for level, first := seen(t, image, root).Level, root; level >= 0; level-- {
		l.chain(level, first)
		first = seen(t, image, first).First
	}
	l.children()
	for _, s := range l.levels[len(l.levels)-1] {
		for _, e := range l.active(s.at) {
			l.value(e)
		}
	}
	l.inUse()
	return l
}

// super looks at the superblock.
func (l *looked) super() {
	l.t.Helper()
	var w [8]uint64
	for k := range w {
		w[k] = wordAt(l.t, l.image, api.Addr(8*k))
	}
	if s, e := super.Of(w); e != api.OK || !super.May(s, len(l.image)) {
		l.t.Fatal("a superblock that may not be:", w)
	}
}

// classOf is the class of the slab in which an address lies.
func classOf(s *slab.Slab, a api.Addr) int {
	return s.Class(geo.Slab(a))
}

// chain looks at a level, from its leftmost node on.
func (l *looked) chain(level int, at api.Addr) {
	l.t.Helper()
	var chain []spot
	for low := uint64(0); at != 0; {
		if classOf(l.blocks, at) != 3 {
			l.t.Fatal("no node's block:", at)
		}
		n, high := seen(l.t, l.image, at), uint64(0)
		if n.Next != 0 {
			high = seen(l.t, l.image, n.Next).Low
		}
		if n.Level != level || n.Low != low || !node.May(n, high, n.Next != 0) || level == 0 && n.First != at {
			l.t.Fatalf("at %d, of the level %d, is %v, by %d", at, level, n, high)
		}
		chain = append(chain, spot{at, low})
		l.reach = append(l.reach, at)
		if len(chain) > 5*api.MaxSlabs {
			l.t.Fatal("a chain that goes round")
		}
		at, low = n.Next, high
	}
	l.levels = append(l.levels, chain)
}

// children holds that entries lead to the nodes below whose Low is their key.
func (l *looked) children() {
	l.t.Helper()
	for i, chain := range l.levels[:len(l.levels)-1] {
		below := l.levels[i+1]
		for _, s := range chain {
			n := seen(l.t, l.image, s.at)
			for _, e := range append(l.active(s.at), api.Entry{Key: n.Low, Ptr: n.First}) {
				if !slices.Contains(below, spot{e.Ptr, e.Key}) {
					l.t.Fatalf("%v leads to no child by %v", n, e)
				}
			}
		}
	}
}

// active are a node's active entries.
func (l *looked) active(at api.Addr) []api.Entry {
	n := seen(l.t, l.image, at)
	if n.Next == 0 {
		return node.Active(n, 0, false)
	}
	return node.Active(n, seen(l.t, l.image, n.Next).Low, true)
}

// value looks at that to which a leaf's entry leads.
func (l *looked) value(e api.Entry) {
	l.t.Helper()
	class := classOf(l.blocks, e.Ptr)
	if _, ok := geo.Index(e.Ptr, class); !ok || class == 3 {
		l.t.Fatalf("the key %d leads to no value's block: %d", e.Key, e.Ptr)
	}
	var words []uint64
	for k := range geo.Bytes(class) / 8 {
		words = append(words, wordAt(l.t, l.image, e.Ptr+api.Addr(8*k)))
	}
	s, f := value.Parse(class, words)
	if f != api.OK {
		l.t.Fatalf("the key %d leads to no value, at %d: %v", e.Key, e.Ptr, words)
	}
	l.has[e.Key] = s
	l.reach = append(l.reach, e.Ptr)
}

// inUse holds that all that is reached is, each once, and is in use.
func (l *looked) inUse() {
	l.t.Helper()
	slices.Sort(l.reach)
	if len(slices.Compact(slices.Clone(l.reach))) != len(l.reach) {
		l.t.Fatal("a block is there twice:", l.reach)
	}
	for _, a := range l.reach {
		if l.blocks.Is(a) != 2 {
			l.t.Fatalf("the block at %d is reached, and is not in use", a)
		}
	}
}

// leaks are the blocks in use that are not reached.
func (l *looked) leaks() []api.Addr {
	return slices.DeleteFunc(l.blocks.Used(), func(a api.Addr) bool {
		_, there := slices.BinarySearch(l.reach, a)
		return there
	})
}

// link is what leads from a level to a node of the one below: an entry, or, with the node's own Low, First.
type link struct {
	level int
	low   uint64
	child api.Addr
}

// links are all of the levels above the leaves'.
func (l *looked) links() map[link]bool {
	links := map[link]bool{}
	for i, chain := range l.levels {
		level := len(l.levels) - 1 - i
		for _, s := range chain {
			if level > 0 {
				links[link{level, s.low, seen(l.t, l.image, s.at).First}] = true
				for _, e := range l.active(s.at) {
					links[link{level, e.Key, e.Ptr}] = true
				}
			}
		}
	}
	return links
}

// of is the chain of a level, from the leaves' on up.
func (l *looked) of(level int) []spot {
	if level >= len(l.levels) {
		return nil
	}
	return l.levels[len(l.levels)-1-level]
}
