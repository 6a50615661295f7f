package lock_test

import (
	"math"
	"slices"
	"testing"

	"levee/api"
	"levee/lock"
)

const (
	few  = 4 // clients, at most
	some = 3 // locks, at most
)

// plain is who has what, and who waits for what, by the chapter's words: clients and locks by their numbers here, and 1 more, so that 0 is nobody, nothing.
type plain struct {
	has   [some]int
	waits [few]int
}

// size is how many clients and locks there are of all that a plain one has room for, and where those locks are.
type size struct {
	clients int
	ids     []api.Addr
}

// act is what may be done of a client, and of which lock.
type act struct {
	name  string
	c, id int
}

// acts are all that may be done.
func (z size) acts() []act {
	var l []act
	for c := range z.clients {
		l = append(l, act{"Drop", c, 0})
		for id := range z.ids {
			l = append(l, act{"Try", c, id}, act{"Release", c, id})
		}
	}
	return l
}

// do is what is behind an act, and what is answered.
func (p plain) do(a act) (plain, bool) {
	had, mine := p.has[a.id] != 0, p.has[a.id] == a.c+1
	switch a.name {
	case "Try":
		p.waits[a.c] = 0
		if had && !mine {
			p.waits[a.c] = a.id + 1
			return p, false
		}
		p.has[a.id] = a.c + 1
		return p, true
	case "Release":
		if mine {
			p.has[a.id] = 0
		}
		if p.waits[a.c] == a.id+1 {
			p.waits[a.c] = 0
		}
		return p, mine
	}
	p.waits[a.c] = 0
	for id, h := range p.has {
		if h == a.c+1 {
			p.has[id] = 0
		}
	}
	return p, false
}

// runs is on whom a client hangs: whoever can go on within as many hops as there are clients; else all that come behind those hops are the circle.
func (p plain) runs(c int) int {
	for range few {
		if p.waits[c] == 0 || p.has[p.waits[c]-1] == 0 {
			return c
		}
		c = p.has[p.waits[c]-1] - 1
	}
	least := c
	for range few {
		c = p.has[p.waits[c]-1] - 1
		least = min(least, c)
	}
	return least
}

// does does an act, and answers what that one does.
func (z size) does(l *lock.Table, a act) bool {
	switch a.name {
	case "Try":
		return l.Try(a.c, z.ids[a.id])
	case "Release":
		return l.Release(a.c, z.ids[a.id])
	}
	l.Drop(a.c)
	return false
}

// agree holds all looks against what they should be.
func (z size) agree(t *testing.T, l *lock.Table, p plain) {
	t.Helper()
	if l.Clients() != z.clients {
		t.Fatalf("%v: Clients: %d", p, l.Clients())
	}
	mine := make([][]api.Addr, z.clients)
	for k, id := range z.ids {
		holder(t, l, id, p.has[k]-1)
		if p.has[k] != 0 {
			mine[p.has[k]-1] = append(mine[p.has[k]-1], id)
		}
	}
	for c := range z.clients {
		slices.Sort(mine[c])
		held(t, l, c, mine[c]...)
		want := api.Addr(0)
		if p.waits[c] != 0 {
			want = z.ids[p.waits[c]-1]
		}
		wants(t, l, c, want)
		runs(t, l, c, p.runs(c))
	}
	if t.Failed() {
		t.Fatalf("these are not %v", p)
	}
}

// P7.1 to P7.6: whatever state some clients and locks can be in, whatever is done there is as the chapter says, and no other state comes of it.
func TestEveryState(t *testing.T) {
	for _, z := range []size{
		{1, []api.Addr{64}},
		{2, []api.Addr{math.MaxUint64, 1}},
		{3, []api.Addr{1088, 64, 1 << 40}},
		{few, []api.Addr{128, 1280}},
	} {
		tables := map[plain]*lock.Table{{}: table(t, z.clients)}
		for todo := []plain{{}}; len(todo) > 0; todo = todo[1:] {
			p := todo[0]
			z.agree(t, tables[p], p)
			for _, a := range z.acts() {
				q, want := p.do(a)
				l := copied(t, tables[p])
				if got := z.does(l, a); got != want {
					t.Fatalf("%v: %v: %t", p, a, got)
				}
				if l.Same(tables[p]) != (p == q) {
					t.Fatalf("%v: %v: the same: %t", p, a, p != q)
				}
				if o := tables[q]; o == nil {
					tables[q] = l
					todo = append(todo, q)
				} else if !l.Same(o) || !o.Same(l) {
					t.Fatalf("%v: %v: not %v, as by another way", p, a, q)
				}
			}
			z.agree(t, tables[p], p) // copies went on apart
		}
		apart(t, tables)
	}
}

// apart says whether tables of different states are never the same.
func apart(t *testing.T, tables map[plain]*lock.Table) {
	t.Helper()
	for p, l := range tables {
		for q, o := range tables {
			if l.Same(o) != (p == q) {
				t.Fatalf("%v, %v: the same: %t", p, q, p != q)
			}
		}
	}
}

// chance is numbers by a rule: the same ones at each run.
type chance uint64

func (c *chance) below(n int) int {
	*c = *c*6364136223846793005 + 1442695040888963407
	return int(uint64(*c>>33) % uint64(n))
}

// P7.6: each lock has one client at most, which has that lock among its own; whoever waits for a lock got no for its last Try of it.
func TestOneHolder(t *testing.T) {
	for seed := range 20 {
		c := chance(seed)
		clients := []int{2, 3, 9, api.MaxClients}[seed%4]
		l := table(t, clients)
		last := make([]map[api.Addr]bool, clients) // what each client's last Try of a lock was answered
		for k := range last {
			last[k] = map[api.Addr]bool{}
		}
		for range 400 {
			who, id := c.below(clients), addresses()[c.below(15)]
			switch c.below(9) {
			case 0, 1, 2, 3, 4:
				_, had := l.Holder(id)
				got := l.Try(who, id)
				last[who][id] = got
				if !had && !got {
					t.Fatalf("Try(%d, %d) of a lock that nobody has: no", who, id)
				}
			case 8:
				if c.below(20) == 0 {
					l.Drop(who)
				}
			default:
				l.Release(who, id)
			}
			oneHolder(t, l, last)
		}
	}
}

func oneHolder(t *testing.T, l *lock.Table, last []map[api.Addr]bool) {
	t.Helper()
	n, all := 0, 0
	for _, id := range addresses() {
		if h, ok := l.Holder(id); ok {
			all++
			if !slices.Contains(l.Held(h), id) {
				t.Fatalf("Held(%d) is without %d", h, id)
			}
		}
	}
	for c := range l.Clients() {
		n += len(l.Held(c))
		id, ok := l.Wants(c)
		if !ok {
			continue
		}
		if got, tried := last[c][id]; !tried || got {
			t.Fatalf("%d waits for %d, which it was not refused", c, id)
		}
		if slices.Contains(l.Held(c), id) {
			t.Fatalf("%d waits for %d, which it has", c, id)
		}
	}
	if n != all {
		t.Fatalf("%d locks are had %d times", all, n)
	}
}

// P7.6: where each one that waits has no locks, nobody's going on goes round.
func TestNoCircle(t *testing.T) {
	for seed := range 20 {
		c := chance(seed)
		clients := []int{2, 3, 9, api.MaxClients}[seed%4]
		l := table(t, clients)
		for range 2000 {
			who, id := c.below(clients), addresses()[c.below(15)]
			if len(l.Held(who)) == 0 {
				l.Try(who, id) // so that whoever has one waits for nothing
			} else {
				l.Release(who, l.Held(who)[0])
			}
			for k := range clients {
				r := l.Runs(k)
				want, waits := l.Wants(r)
				if _, had := l.Holder(want); waits && had {
					t.Fatalf("Runs(%d): %d, which waits for %d", k, r, want)
				}
			}
		}
	}
}
