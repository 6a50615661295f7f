package lock_test

import (
	"math"
	"slices"
	"testing"

	"levee/api"
	"levee/lock"
)

func table(t *testing.T, clients int) *lock.Table {
	t.Helper()
	l, e := lock.New(clients)
	if l == nil || e != api.OK {
		t.Fatalf("New(%d): %v, %d", clients, l, e)
	}
	return l
}

// copied is a copy, which is the same as what it was made of.
func copied(t *testing.T, l *lock.Table) *lock.Table {
	t.Helper()
	o := l.Copy()
	if o == nil || o == l || !o.Same(l) {
		t.Fatalf("Copy: %v of %v", o, l)
	}
	return o
}

func try(t *testing.T, l *lock.Table, c int, id api.Addr, want bool) {
	t.Helper()
	if got := l.Try(c, id); got != want {
		t.Errorf("Try(%d, %d): %t", c, id, got)
	}
}

func release(t *testing.T, l *lock.Table, c int, id api.Addr, want bool) {
	t.Helper()
	if got := l.Release(c, id); got != want {
		t.Errorf("Release(%d, %d): %t", c, id, got)
	}
}

// holder says whether that client has a lock; below 0: nobody.
func holder(t *testing.T, l *lock.Table, id api.Addr, c int) {
	t.Helper()
	if got, ok := l.Holder(id); ok != (c >= 0) || got != max(c, 0) {
		t.Errorf("Holder(%d): %d, %t, not %d", id, got, ok, c)
	}
}

// wants says whether a client waits for that lock; 0: for none.
func wants(t *testing.T, l *lock.Table, c int, id api.Addr) {
	t.Helper()
	if got, ok := l.Wants(c); got != id || ok != (id != 0) {
		t.Errorf("Wants(%d): %d, %t, not %d", c, got, ok, id)
	}
}

func held(t *testing.T, l *lock.Table, c int, ids ...api.Addr) {
	t.Helper()
	if got := l.Held(c); !slices.Equal(got, ids) {
		t.Errorf("Held(%d): %v, not %v", c, got, ids)
	}
}

func runs(t *testing.T, l *lock.Table, c, want int) {
	t.Helper()
	if got := l.Runs(c); got != want {
		t.Errorf("Runs(%d): %d, not %d", c, got, want)
	}
}

// wrongClients are numbers of no client, where there are so many.
func wrongClients(clients int) []int {
	return []int{math.MinInt, math.MinInt32, -65, -64, -2, -1, clients, clients + 1, api.MaxClients, api.System, 65, 128, math.MaxInt32, 1 << 32, 1<<32 + 1, math.MaxInt}
}

// addresses are some of all kinds: a lock may belong to any that is above 0.
func addresses() []api.Addr {
	return []api.Addr{1, 2, 7, 8, 63, 64, 65, 1088, 1 << 20, 1<<20 + 1, 1 << 32, 1<<32 + 64, 1 << 63, math.MaxUint64 - 1, math.MaxUint64}
}

// busy is locks of 4 clients: 0 has 64 and 192, and waits for 128, which 1 has; 2 has none, and waits for 64; 3 has none, and waits for nothing.
func busy(t *testing.T) *lock.Table {
	t.Helper()
	l := table(t, 4)
	try(t, l, 0, 192, true)
	try(t, l, 0, 64, true)
	try(t, l, 1, 128, true)
	try(t, l, 0, 128, false)
	try(t, l, 2, 64, false)
	return l
}

// P7.1, P7.2, P7.3: the chapter's example.
func TestExample(t *testing.T) {
	l := table(t, 3)
	try(t, l, 0, 64, true)
	try(t, l, 1, 64, false)
	wants(t, l, 1, 64)
	runs(t, l, 1, 0)
	release(t, l, 0, 64, true)
	runs(t, l, 1, 1)
	try(t, l, 2, 64, true)
}

// P7.1, P7.2: New refuses clients that are not 1 to MaxClients; else nobody has a lock, or waits for one.
func TestNew(t *testing.T) {
	for _, n := range []int{math.MinInt, math.MinInt32, -64, -1, 0, 65, 66, 128, math.MaxInt32, 1 << 32, 1<<32 + 1, math.MaxInt} {
		if l, e := lock.New(n); l != nil || e != api.ErrArg {
			t.Errorf("New(%d): %v, %d", n, l, e)
		}
	}
	for n := 1; n <= api.MaxClients; n++ {
		l := table(t, n)
		if l.Clients() != n {
			t.Errorf("Clients of %d: %d", n, l.Clients())
		}
		for c := range n {
			wants(t, l, c, 0)
			held(t, l, c)
			runs(t, l, c, c)
		}
		for _, id := range addresses() {
			holder(t, l, id, -1)
		}
	}
}

// P7.1, P7.2: tables that New answers have nothing of one another.
func TestApart(t *testing.T) {
	l, o := table(t, 2), table(t, 2)
	try(t, l, 0, 64, true)
	try(t, l, 1, 64, false)
	holder(t, o, 64, -1)
	wants(t, o, 1, 0)
	try(t, o, 1, 64, true)
	holder(t, l, 64, 0)
}

// P7.1: a lock that nobody has is given, and who has it has it still, however often it tries; nobody else is given it.
func TestTry(t *testing.T) {
	for _, clients := range []int{2, 3, api.MaxClients} {
		last := clients - 1
		l := table(t, clients)
		for _, id := range addresses() {
			for range 3 {
				try(t, l, last, id, true)
				holder(t, l, id, last)
				wants(t, l, last, 0)
				try(t, l, 0, id, false)
				holder(t, l, id, last)
				wants(t, l, 0, id)
			}
		}
		held(t, l, last, addresses()...)
		held(t, l, 0)
	}
}

// P7.1, P7.2: a client waits for the lock alone that it tried last; it is given another one, and waits for nothing any more.
func TestTryWaits(t *testing.T) {
	l := table(t, 3)
	try(t, l, 0, 64, true)
	try(t, l, 0, 128, true)
	try(t, l, 1, 64, false)
	wants(t, l, 1, 64)
	try(t, l, 1, 128, false)
	wants(t, l, 1, 128) // and no more for 64
	try(t, l, 1, 192, true)
	wants(t, l, 1, 0)
	try(t, l, 1, 64, false)
	wants(t, l, 1, 64)
	try(t, l, 1, 192, true) // it has it already
	wants(t, l, 1, 0)
	held(t, l, 1, 192)
	wants(t, l, 0, 0)
	wants(t, l, 2, 0)
}

// P7.1, P7.2: who waits for a lock is given it by a Try alone, whoever tries first, and waits for it till then, though it may be free.
func TestTryFirst(t *testing.T) {
	l := table(t, 3)
	try(t, l, 0, 64, true)
	try(t, l, 1, 64, false)
	try(t, l, 2, 64, false)
	release(t, l, 0, 64, true)
	holder(t, l, 64, -1)
	wants(t, l, 1, 64)
	wants(t, l, 2, 64)
	try(t, l, 2, 64, true)
	wants(t, l, 2, 0)
	wants(t, l, 1, 64)
	try(t, l, 1, 64, false)
	release(t, l, 2, 64, true)
	try(t, l, 0, 64, true) // who waits has no right ahead of others
	try(t, l, 1, 64, false)
}

// P7.1: what is released nobody has; of what is not the client's own nothing is released.
func TestRelease(t *testing.T) {
	l := busy(t)
	release(t, l, 1, 64, false)
	release(t, l, 3, 64, false)
	holder(t, l, 64, 0)
	release(t, l, 0, 64, true)
	holder(t, l, 64, -1)
	release(t, l, 0, 64, false)
	release(t, l, 0, 256, false) // nobody ever had it
	held(t, l, 0, 192)
	held(t, l, 1, 128)
	release(t, l, 1, 128, true)
	try(t, l, 3, 128, true)
	release(t, l, 1, 128, false)
	holder(t, l, 128, 3)
}

// P7.1, P7.2: by Release a client waits for that lock no more, whether somebody has it or not; for another one it waits still.
func TestReleaseWaits(t *testing.T) {
	l := busy(t)
	release(t, l, 2, 128, false)
	release(t, l, 2, 192, false)
	release(t, l, 2, 999, false)
	wants(t, l, 2, 64)
	release(t, l, 2, 64, false)
	wants(t, l, 2, 0)
	holder(t, l, 64, 0)
	release(t, l, 0, 64, true)
	wants(t, l, 0, 128) // it was another one
	release(t, l, 1, 128, true)
	wants(t, l, 0, 128)
	release(t, l, 0, 128, false) // free by now
	wants(t, l, 0, 0)
	holder(t, l, 128, -1)
	held(t, l, 0, 192)
}

// P7.1 to P7.4: of a client that there is not, and of the address 0, there is nothing, and nothing changes.
func TestNothing(t *testing.T) {
	l := busy(t)
	was := copied(t, l)
	for _, c := range wrongClients(4) {
		for _, id := range append(addresses(), 0, 128, 192, 256) {
			try(t, l, c, id, false)
			release(t, l, c, id, false)
		}
		wants(t, l, c, 0)
		held(t, l, c)
		runs(t, l, c, -1)
		l.Drop(c)
		if !l.Same(was) {
			t.Fatalf("the client %d, which there is not, changed something", c)
		}
	}
	for c := range 4 {
		try(t, l, c, 0, false)
		release(t, l, c, 0, false)
	}
	holder(t, l, 0, -1)
	if !l.Same(was) || l.Clients() != 4 {
		t.Error("the address 0 changed something")
	}
}

// P7.2: Holder tells who has a lock, the client 0, too, and is not a lock of another address.
func TestHolder(t *testing.T) {
	l := table(t, api.MaxClients)
	for k, id := range addresses() {
		try(t, l, k, id, true)
	}
	for k, id := range addresses() {
		holder(t, l, id, k)
	}
	for _, id := range []api.Addr{0, 3, 9, 62, 66, 72, 128, 1089, 1<<32 + 1, 1<<63 + 1, math.MaxUint64 - 2} {
		holder(t, l, id, -1)
	}
}

// P7.2: Held rises, in whatever order the locks came, and is of that client alone.
func TestHeld(t *testing.T) {
	l := table(t, 3)
	ids := []api.Addr{1, 64, 1088, 1<<32 + 5, 1 << 63, math.MaxUint64}
	for _, k := range []int{3, 0, 5, 1, 4, 2} {
		try(t, l, 1, ids[k], true)
		try(t, l, 2, ids[k], false)
		try(t, l, 2, ids[k]-1, ids[k] != 1)
	}
	held(t, l, 0)
	held(t, l, 1, ids...)
	held(t, l, 2, 63, 1087, 1<<32+4, 1<<63-1, math.MaxUint64-1)
	release(t, l, 1, 1088, true)
	held(t, l, 1, 1, 64, 1<<32+5, 1<<63, math.MaxUint64)
}

// P7.2: what Held answers shares nothing with what stays.
func TestHeldIsNew(t *testing.T) {
	l := busy(t)
	a := l.Held(0)
	for i := range a {
		a[i] = 7
	}
	held(t, l, 0, 64, 192)
	holder(t, l, 7, -1)
	b := l.Held(0)
	l.Drop(0)
	if !slices.Equal(b, []api.Addr{64, 192}) {
		t.Errorf("a list that was answered is %v now", b)
	}
}

// own is the lock that belongs to a client in a chain.
func own(c int) api.Addr {
	return api.Addr(64 * (c + 1))
}

// chain lets each client have a lock of its own, and wait for that of the next one.
func chain(t *testing.T, l *lock.Table, clients ...int) {
	t.Helper()
	for k, c := range clients {
		if _, ok := l.Holder(own(c)); !ok {
			try(t, l, c, own(c), true)
		}
		if k > 0 {
			try(t, l, clients[k-1], own(c), false)
		}
	}
}

// P7.3: who waits for nothing runs itself, and so does who waits for a lock that nobody has.
func TestRunsItself(t *testing.T) {
	l := busy(t)
	runs(t, l, 3, 3)
	runs(t, l, 1, 1)
	release(t, l, 1, 128, true)
	wants(t, l, 0, 128)
	runs(t, l, 0, 0)
	runs(t, l, 2, 0)
	l.Drop(0)
	wants(t, l, 2, 64)
	runs(t, l, 2, 2)
}

// P7.3: who waits hangs on who has the lock, and so on, up to one that can go on.
func TestRunsChain(t *testing.T) {
	l := table(t, 6)
	chain(t, l, 5, 2, 4, 0)
	for _, c := range []int{5, 2, 4, 0} {
		runs(t, l, c, 0)
	}
	runs(t, l, 1, 1)
	try(t, l, 0, 999, true)
	try(t, l, 3, 999, false)
	try(t, l, 1, 128, true)
	try(t, l, 0, 128, false)
	for _, c := range []int{5, 2, 4, 0, 3, 1} {
		runs(t, l, c, 1)
	}
	release(t, l, 4, 320, true) // 2 waits for it still, but nobody has it
	for c, want := range []int{1, 1, 2, 1, 1, 2} {
		runs(t, l, c, want)
	}
}

// P7.3: where it goes round, it is the least one of the circle, not one that leads to it.
func TestRunsCircle(t *testing.T) {
	l := table(t, 10)
	chain(t, l, 6, 4, 8, 6) // a circle
	chain(t, l, 1, 9, 2, 8) // leads to it
	chain(t, l, 0, 9)       // likewise, elsewhere
	chain(t, l, 7, 5, 7)    // another circle
	chain(t, l, 3, 7)       // leads to that
	for c, want := range []int{4, 4, 4, 5, 4, 5, 4, 5, 4, 4} {
		runs(t, l, c, want)
	}
	try(t, l, 8, own(8), true) // what it has: it waits no more, and nothing goes round
	for c, want := range []int{8, 8, 8, 5, 8, 5, 8, 5, 8, 8} {
		runs(t, l, c, want)
	}
	chain(t, l, 8, 2) // another circle, of 8 and 2
	for c, want := range []int{2, 2, 2, 5, 2, 5, 2, 5, 2, 2} {
		runs(t, l, c, want)
	}
	l.Drop(2) // 8 waits for a lock that nobody has
	for c, want := range []int{9, 9, 2, 5, 8, 5, 8, 5, 8, 9} {
		runs(t, l, c, want)
	}
}

// P7.3: so it is of all clients that there may be, in a row, and in a circle, wherever its least one stands.
func TestRunsAll(t *testing.T) {
	for _, by := range []int{1, 3, 63, 5} { // each goes over all, as none has a part in common with their number
		l := table(t, api.MaxClients)
		var row []int
		for k := range api.MaxClients {
			row = append(row, (17+by*k)%api.MaxClients)
		}
		last := row[len(row)-1]
		chain(t, l, row...)
		for c := range api.MaxClients {
			runs(t, l, c, last)
		}
		chain(t, l, last, row[0])
		for c := range api.MaxClients {
			runs(t, l, c, 0)
		}
	}
}

// P7.3: Runs is a look: it changes nothing.
func TestRunsLooks(t *testing.T) {
	l := busy(t)
	try(t, l, 1, 64, false)
	was := copied(t, l)
	for c := range 4 {
		l.Runs(c)
		l.Wants(c)
		l.Held(c)
	}
	l.Holder(64)
	l.Holder(999)
	if !l.Same(was) {
		t.Error("a look changed something")
	}
}

// P7.4: behind Drop a client has nothing, and waits for nothing; others have, and wait for, what they did.
func TestDrop(t *testing.T) {
	l := busy(t)
	for range 2 {
		l.Drop(0)
		held(t, l, 0)
		wants(t, l, 0, 0)
		holder(t, l, 64, -1)
		holder(t, l, 192, -1)
		held(t, l, 1, 128)
		wants(t, l, 2, 64)
	}
	l.Drop(2) // it has none, but waits
	wants(t, l, 2, 0)
	l.Drop(1) // it has one, and waits for nothing
	if !l.Same(table(t, 4)) {
		t.Error("something is left")
	}
	try(t, l, 3, 64, true)
}

// P7.5: a copy goes on apart, and so does what it was made of.
func TestCopy(t *testing.T) {
	l := busy(t)
	o := copied(t, l)
	if o.Clients() != 4 {
		t.Errorf("Clients: %d", o.Clients())
	}
	held(t, o, 0, 64, 192)
	wants(t, o, 0, 128)
	wants(t, o, 2, 64)
	try(t, o, 3, 256, true)
	release(t, o, 0, 64, true)
	try(t, o, 2, 64, true)
	holder(t, l, 256, -1)
	holder(t, l, 64, 0)
	wants(t, l, 2, 64)
	l.Drop(1)
	holder(t, o, 128, 1)
	if l.Same(o) || o.Same(l) {
		t.Error("they went on in different ways")
	}
	fresh := copied(t, table(t, 1))
	try(t, fresh, 0, 64, true) // a copy of locks that nobody has can be used, too
}

// P7.5: Same looks at how many clients there are, who has what, and who waits for what, and at nothing else.
func TestSame(t *testing.T) {
	l := busy(t)
	o := table(t, 4) // the same, in another order, and by other ways
	try(t, o, 1, 128, true)
	try(t, o, 3, 64, true)
	try(t, o, 2, 64, false)
	release(t, o, 3, 64, true)
	try(t, o, 0, 64, true)
	try(t, o, 0, 320, true)
	release(t, o, 0, 320, true)
	try(t, o, 0, 192, true)
	try(t, o, 0, 128, false)
	if !l.Same(l) || !l.Same(o) || !o.Same(l) {
		t.Error("they are the same")
	}
	for k, act := range []func(*lock.Table){
		func(x *lock.Table) { x.Try(3, 256) },            // one more is had
		func(x *lock.Table) { x.Release(0, 192) },        // one less
		func(x *lock.Table) { x.Drop(1); x.Try(3, 128) }, // by another one
		func(x *lock.Table) { x.Drop(1); x.Try(1, 129) }, // another one is had
		func(x *lock.Table) { x.Try(3, 64) },             // one more waits
		func(x *lock.Table) { x.Release(2, 64) },         // one less
		func(x *lock.Table) { x.Try(2, 128) },            // for another one
		func(x *lock.Table) { x.Drop(2); x.Try(3, 64) },  // another one waits
	} {
		x := copied(t, l)
		act(x)
		if x.Same(l) || l.Same(x) {
			t.Errorf("%d: they are not the same", k)
		}
	}
	for n := 1; n <= 5; n++ {
		if x := table(t, 3); x.Same(table(t, n)) != (n == 3) {
			t.Errorf("3 clients, and %d", n)
		}
	}
}

// P7.1 to P7.5, P0.3: of no locks, and of zero ones, there is nothing, and nothing is done.
func TestNil(t *testing.T) {
	zero := &lock.Table{}
	for _, l := range []*lock.Table{nil, zero} {
		if l.Clients() != 0 {
			t.Errorf("Clients: %d", l.Clients())
		}
		for _, c := range append(wrongClients(0), 0, 1, 63) {
			for _, id := range []api.Addr{0, 1, 64, math.MaxUint64} {
				try(t, l, c, id, false)
				release(t, l, c, id, false)
				holder(t, l, id, -1)
			}
			wants(t, l, c, 0)
			held(t, l, c)
			runs(t, l, c, -1)
			l.Drop(c)
		}
		if o := l.Copy(); o != nil {
			t.Errorf("Copy: %v", o)
		}
		if x := table(t, 1); l.Same(x) || x.Same(l) {
			t.Error("what is not there is the same as what is")
		}
		if !l.Same(nil) || !l.Same(zero) {
			t.Error("two that are not there are the same")
		}
	}
}
