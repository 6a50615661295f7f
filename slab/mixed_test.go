package slab_test

import (
	"slices"
	"testing"

	"levee/api"
	"levee/pmem"
	"levee/slab"
)

// under is a turn on its way: of which block, and whether it has stored the bits.
type under struct {
	turn   *slab.Turn
	at     api.Addr
	to     int
	stored bool
	steps  int
}

// world is an arena's blocks in a memory, and what they are by the chapter's words, kept plainly.
type world struct {
	s     *slab.Slab
	m     *pmem.Mem
	class []int // by slab, from 0 on
	is    map[api.Addr]int
	turns []*under
}

// worldOf is the world of an image, as its headers say.
func worldOf(t *testing.T, image []byte) *world {
	t.Helper()
	w := &world{s: of(t, image), m: memory(t, image), is: map[api.Addr]int{}}
	for i := 1; i < len(image)/1024; i++ {
		class, b := int(word(image, 1024*i)), word(image, 1024*i+8)
		w.class = append(w.class, class)
		for j := range counts[class] {
			if b>>j%2 == 1 {
				w.is[blockAt(i, class, j)] = published
			}
		}
	}
	return w
}

// blocks are all blocks of a class that is given, rising.
func (w *world) blocks(class int) []api.Addr {
	var l []api.Addr
	for i, c := range w.class {
		if c != 0 && (class == 0 || c == class) {
			for j := range counts[c] {
				l = append(l, blockAt(i+1, c, j))
			}
		}
	}
	return l
}

// kinds are all blocks that are one of these, rising.
func (w *world) kinds(is ...int) []api.Addr {
	return slices.DeleteFunc(w.blocks(0), func(a api.Addr) bool { return !slices.Contains(is, w.is[a]) })
}

// room is how many blocks of a class are free, or would be.
func (w *world) room(class int) int {
	n := 0
	for i, c := range w.class {
		if c == 0 {
			n += counts[class]
		}
		if c == class {
			for j := range counts[c] {
				if w.is[blockAt(i+1, c, j)] == free {
					n++
				}
			}
		}
	}
	return n
}

// agree holds all looks against what is kept plainly.
func (w *world) agree(t *testing.T) {
	t.Helper()
	for i, c := range w.class {
		if w.s.Class(i+1) != c {
			t.Fatalf("Class(%d): %d, not %d", i+1, w.s.Class(i+1), c)
		}
	}
	all := w.blocks(0)
	for a := api.Addr(0); a < api.Addr(w.m.Size())+1024; a += 64 {
		want := 0
		if slices.Contains(all, a) {
			want = w.is[a]
		}
		if w.s.Is(a) != want {
			t.Fatalf("Is(%d): %d, not %d", a, w.s.Is(a), want)
		}
	}
	for class := 1; class <= 3; class++ {
		if w.s.Room(class) != w.room(class) {
			t.Fatalf("Room(%d): %d, not %d", class, w.s.Room(class), w.room(class))
		}
	}
	if l := w.kinds(published, leaving); !slices.Equal(w.s.Used(), l) {
		t.Fatalf("Used: %v, not %v", w.s.Used(), l)
	}
	w.apart(t)
}

// apart says whether no two blocks that are not free lie on one another, or on a header.
func (w *world) apart(t *testing.T) {
	t.Helper()
	end := api.Addr(1024)
	for a := api.Addr(0); a < api.Addr(w.m.Size()); a += 8 {
		if w.s.Is(a) == free {
			continue
		}
		if a < end || a%1024 < 64 {
			t.Fatalf("the block at %d lies on another one, up to %d", a, end)
		}
		end = a + api.Addr(64*w.s.Class(int(a/1024)))
		if (end-1)/1024 != a/1024 {
			t.Fatalf("the block at %d reaches out of its slab", a)
		}
	}
}

// reserve reserves a block of a class, which has to be the least one.
func (w *world) reserve(t *testing.T, class int) {
	t.Helper()
	want, code := api.Addr(0), api.ErrFull
	for _, a := range w.blocks(class) {
		if w.is[a] == free {
			want, code = a, api.OK
			break
		}
	}
	if i := slices.Index(w.class, 0); code != api.OK && i >= 0 {
		w.class[i] = class
		want, code = blockAt(i+1, class, 0), api.OK
	}
	if a, e := w.s.Reserve(class); a != want || e != code {
		t.Fatalf("Reserve(%d): %d, %d, not %d, %d", class, a, e, want, code)
	}
	if code == api.OK {
		w.is[want] = reserved
	}
}

func (w *world) publish(t *testing.T, client int, a api.Addr) {
	t.Helper()
	w.turns = append(w.turns, &under{turn: publish(t, w.s, w.m, client, a), at: a, to: published})
	w.is[a] = coming
}

func (w *world) giveBack(t *testing.T, client int, a api.Addr) {
	t.Helper()
	w.turns = append(w.turns, &under{turn: giveBack(t, w.s, w.m, client, a), at: a, to: free})
	w.is[a] = leaving
}

// header is the class and the bits that loads see of the slab in which a block is.
func (w *world) header(t *testing.T, a api.Addr) (uint64, uint64) {
	t.Helper()
	class, e := w.m.Load(a - a%1024)
	b, f := w.m.Load(a - a%1024 + 8)
	if e != api.OK || f != api.OK {
		t.Fatal(e, f)
	}
	return class, b
}

// step does a step of a turn, and says whether it is done.
func (w *world) step(t *testing.T, i int) bool {
	t.Helper()
	u := w.turns[i]
	_, was := w.header(t, u.at)
	before := w.m.Stats()
	done, e := u.turn.Step()
	u.steps++
	if e != api.OK || u.steps > 20 || did(w.m, before) > 1 {
		t.Fatalf("step %d of the turn of %d: %d, and %d primitives", u.steps, u.at, e, did(w.m, before))
	}
	class, b := w.header(t, u.at)
	w.storedOnce(t, u, was, b)
	if u.stored && int(class) != w.class[u.at/1024-1] {
		t.Fatalf("bits of a slab of the class %d", class)
	}
	if done {
		if !u.stored {
			t.Fatalf("the turn of %d stored no bits", u.at)
		}
		w.is[u.at] = u.to
		w.turns = slices.Delete(w.turns, i, i+1)
	}
	return done
}

// storedOnce says whether a step left the bits as they were, or, once in a turn, changed just the bit of its block to what it is to be.
func (w *world) storedOnce(t *testing.T, u *under, was, b uint64) {
	t.Helper()
	if b == was {
		return
	}
	j := int(u.at%1024-64) / (64 * w.class[u.at/1024-1])
	want := was &^ (1 << j)
	if u.to == published {
		want = was | 1<<j
	}
	if u.stored || b != want {
		t.Fatalf("the turn of %d to %d: bits %x behind %x", u.at, u.to, b, was)
	}
	u.stored = true
}

// lasts holds what the headers' lines have, and what each of them may come to by a crash, against what the blocks are.
func (w *world) lasts(t *testing.T) {
	t.Helper()
	w.explains(t, w.m.Image())
	lines := w.m.Lines()
	for i, line := range lines {
		for n := 1; n <= w.m.Pending(line); n++ {
			keep := make([]int, len(lines))
			keep[i] = n
			c := w.m.Copy()
			c.Crash(keep...)
			w.explains(t, c.Image())
		}
	}
}

// explains holds an image against what the blocks are: published ones are in use, free and reserved ones are not, others may be.
func (w *world) explains(t *testing.T, image []byte) {
	t.Helper()
	o, e := slab.Of(image)
	if e != api.OK {
		t.Fatalf("Of an image: %d", e)
	}
	for i, c := range w.class {
		if k := o.Class(i + 1); k != 0 && k != c {
			t.Fatalf("slab %d has lasted with the class %d, not %d", i+1, k, c)
		}
	}
	var used []api.Addr
	for _, a := range w.blocks(0) {
		is := o.Is(a)
		if is != free && is != published || is == free && w.is[a] == published || is == published && (w.is[a] == free || w.is[a] == reserved) {
			t.Fatalf("the block at %d, which is %d, has lasted as %d", a, w.is[a], is)
		}
		if is == published {
			used = append(used, a)
		}
	}
	if !slices.Equal(o.Used(), used) {
		t.Fatalf("Used: %v, not %v", o.Used(), used)
	}
}

// chance is numbers by a rule: the same ones at each run.
type chance uint64

func (c *chance) below(n int) int {
	*c = *c*6364136223846793005 + 1442695040888963407
	return int(uint64(*c>>33) % uint64(n))
}

// one is any of these, and whether there is one.
func (c *chance) one(l []api.Addr) (api.Addr, bool) {
	if len(l) == 0 {
		return 0, false
	}
	return l[c.below(len(l))], true
}

// act does something, or nothing, if there is nothing of which it could be done.
func (w *world) act(t *testing.T, c *chance) {
	t.Helper()
	client := []int{0, 1, 2, api.System}[c.below(4)]
	switch k := c.below(50); {
	case k < 8:
		w.reserve(t, 1+c.below(3))
	case k < 10:
		if a, ok := c.one(w.kinds(reserved)); ok {
			if e := w.s.Release(a); e != api.OK {
				t.Fatalf("Release(%d): %d", a, e)
			}
			w.is[a] = free
		}
	case k < 16:
		if a, ok := c.one(w.kinds(reserved)); ok {
			w.publish(t, client, a)
		}
	case k < 20:
		if a, ok := c.one(w.kinds(published)); ok {
			w.giveBack(t, client, a)
		}
	case k < 44:
		if len(w.turns) > 0 {
			w.step(t, c.below(len(w.turns)))
		}
	case k < 48:
		w.m.Evict(api.Addr(1024*(1+c.below(len(w.class)))), c.below(4))
	default:
		// What others do with a client's marks, and in other lines, is nothing to the headers.
		w.m.Store(api.Addr(1024+64+8*c.below(8)), uint64(c.below(9)))
		w.m.Flush(client, 1024)
		w.m.Fence(client)
	}
}

// crash lets the power go: what was published has lasted, and what is in use then is that, and some of what was on its way.
func (w *world) crash(t *testing.T, c *chance) *world {
	t.Helper()
	keep := make([]int, c.below(4))
	for i := range keep {
		keep[i] = c.below(20)
	}
	w.m.Crash(keep...)
	w.explains(t, w.m.Image())
	return worldOf(t, w.m.Image())
}

// P6.1 to P6.5: whatever is done, in whatever order, the blocks are as the chapter's words say, and so is what has lasted of them, whatever it is.
func TestAsThePlainOne(t *testing.T) {
	for seed := range 40 {
		c := chance(seed)
		w := worldOf(t, noughts(1+seed%3))
		for k := range 300 {
			w.act(t, &c)
			w.agree(t)
			w.lasts(t)
			if k%90 == 89 {
				w = w.crash(t, &c)
				w.agree(t)
			}
		}
		for len(w.turns) > 0 {
			w.step(t, c.below(len(w.turns)))
			w.lasts(t)
		}
		w.agree(t)
	}
}

// P6.1 to P6.5: so it is in the greatest arena, with many turns at once.
func TestGreatest(t *testing.T) {
	c := chance(77)
	w := worldOf(t, noughts(api.MaxSlabs))
	for class := 1; class <= 3; class++ {
		for range 21 * counts[class] {
			w.reserve(t, class)
		}
	}
	for k, a := range w.kinds(reserved) {
		w.publish(t, k%(api.System+1), a)
	}
	for len(w.turns) > 0 {
		w.step(t, c.below(len(w.turns)))
		if c.below(40) == 0 {
			w.m.Evict(api.Addr(1024*(1+c.below(api.MaxSlabs))), c.below(5))
		}
		if c.below(400) == 0 {
			w.explains(t, w.m.Image())
		}
	}
	w.agree(t)
	w.explains(t, w.m.Image())
	for k, a := range w.kinds(published) {
		if k%3 != 0 {
			w.giveBack(t, k%2, a)
		}
	}
	for len(w.turns) > 0 {
		w.step(t, c.below(len(w.turns)))
	}
	w.agree(t)
	w.explains(t, w.m.Image())
	w = w.crash(t, &c)
	w.agree(t)
}

// pairOf is a slab of which two blocks have a turn each.
func pairOf(t *testing.T, clients, to [2]int) *world {
	t.Helper()
	b, class := uint64(0x10), uint64(2)
	for k, x := range to {
		if x == free {
			b |= 1 << k
		}
	}
	if to == [2]int{published, published} {
		b, class = 0, 0 // the class comes with them, too
	}
	w := worldOf(t, imageOf(head{class, b}))
	for k, x := range to {
		if x == published {
			w.reserve(t, 2)
			w.publish(t, clients[k], blockAt(1, 2, k))
		}
	}
	for k, x := range to {
		if x == free {
			w.giveBack(t, clients[k], blockAt(1, 2, k))
		}
	}
	return w
}

// mixings tells all orders in which a first thing may have n steps, and a second one o.
func mixings(n, o int) [][]int {
	if n == 0 && o == 0 {
		return [][]int{nil}
	}
	var l [][]int
	if n > 0 {
		for _, rest := range mixings(n-1, o) {
			l = append(l, append([]int{0}, rest...))
		}
	}
	if o > 0 {
		for _, rest := range mixings(n, o-1) {
			l = append(l, append([]int{1}, rest...))
		}
	}
	return l
}

// P6.3, P6.5: two turns of one slab, mixed in every way, of one client and of two: at each moment, whatever front of the line lasts, it is what the blocks are; and in the end both are done.
func TestEveryMixing(t *testing.T) {
	for _, to := range [][2]int{{published, published}, {published, free}, {free, published}, {free, free}} {
		for _, clients := range [][2]int{{0, 0}, {0, 1}, {api.System, 3}} {
			alone := pairOf(t, clients, to)
			n := through(t, alone.turns[0].turn)
			o := through(t, alone.turns[1].turn)
			if n+o > 16 {
				t.Fatalf("turns of %d and %d steps mix in too many ways to go through", n, o)
			}
			for _, order := range mixings(n, o) {
				w := pairOf(t, clients, to)
				both := [2]*under{w.turns[0], w.turns[1]}
				for _, k := range order {
					w.step(t, slices.Index(w.turns, both[k]))
					w.agree(t)
					w.lasts(t)
				}
				if len(w.turns) != 0 {
					t.Fatalf("%v: turns are left", order)
				}
				w.m.Crash()
				w.explains(t, w.m.Image())
			}
		}
	}
}

// P6.3, P6.5: a block that goes round, published and given back while another one's turn stands still behind each of its steps, lasts as what it is.
func TestRoundAboutOneThatStands(t *testing.T) {
	for stand := range 20 {
		w := worldOf(t, noughts(1))
		w.reserve(t, 1)
		w.reserve(t, 1)
		w.publish(t, 5, blockAt(1, 1, 0))
		for k := range stand {
			if w.step(t, 0) {
				stand = k
				break
			}
		}
		for range 3 {
			w.publish(t, 5, blockAt(1, 1, 1))
			w.last(t)
			w.giveBack(t, 6, blockAt(1, 1, 1))
			w.last(t)
			w.reserve(t, 1)
		}
		for len(w.turns) > 0 {
			w.step(t, 0)
			w.lasts(t)
		}
		w.agree(t)
	}
}

// last does the turn that began last, up to its end.
func (w *world) last(t *testing.T) {
	t.Helper()
	for n := len(w.turns); len(w.turns) == n; {
		w.step(t, n-1)
		w.agree(t)
		w.lasts(t)
	}
}

// P6.5, P0.3: behind a crash at any step of a turn, and whatever front is kept, the blocks of the image are the published ones, and that one or not; reserved ones are free again, and can all be reserved.
func TestCrashAtEachStep(t *testing.T) {
	for class := 1; class <= 3; class++ {
		for at := range 5 {
			for keep := range 5 {
				w := worldOf(t, noughts(2))
				for range 3 {
					w.reserve(t, class)
				}
				w.publish(t, 0, blockAt(1, class, 1))
				w.last(t)
				w.publish(t, 0, blockAt(1, class, 2))
				for range at {
					if w.step(t, 0) {
						break
					}
				}
				if len(w.turns) == 0 && w.is[blockAt(1, class, 2)] != published {
					t.Fatal("it is done, and not published")
				}
				w.m.Crash(keep)
				w.explains(t, w.m.Image())
				o := worldOf(t, w.m.Image())
				o.agree(t)
				n := len(o.kinds(published))
				if n != 1 && n != 2 || o.s.Room(class) != 2*counts[class]-n {
					t.Fatalf("published %v, Room %d", o.kinds(published), o.s.Room(class))
				}
				for range o.s.Room(class) {
					o.reserve(t, class)
				}
				o.reserve(t, class) // none is free
				o.agree(t)
			}
		}
	}
}
