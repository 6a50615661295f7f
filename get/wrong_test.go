package get_test

import (
	"math"
	"testing"

	"levee/api"
	"levee/get"
	"levee/pmem"
	"levee/site"
)

// refused holds a get that ends with an error, at most so many steps from now, and that it tells of nothing else.
func refused(t *testing.T, g *get.Get, m *pmem.Mem, most int, code api.Errno) {
	t.Helper()
	if _, e := ended(t, g, m, most); e != code {
		t.Fatalf("%d, not %d", e, code)
	}
	tells(t, g, api.Response{Code: code}, g.Tries())
	stays(t, g, m, code)
}

// The chapter's Errors, P15.1: no get, a zero one.
func TestNone(t *testing.T) {
	var none *get.Get
	for _, g := range []*get.Get{none, {}} {
		for range 3 {
			tells(t, g, api.Response{}, 0)
			if done, e := g.Step(); !done || e != api.ErrNil {
				t.Fatalf("Step: %v, %d", done, e)
			}
		}
		tells(t, g, api.Response{}, 0)
	}
}

// The chapter's Errors, P15.1: no site, whatever else is wrong: it is done then, and so is its Code.
func TestNoSite(t *testing.T) {
	for _, s := range []*site.Site{nil, {}} {
		for _, client := range []int{0, -1, 99, math.MinInt} {
			g := get.New(s, client, 5)
			if g == nil {
				t.Fatal("New: none")
			}
			tells(t, g, api.Response{}, 0)
			refused(t, g, nil, 1, api.ErrNil)
			if g.Tries() != 0 {
				t.Fatal("begun anew")
			}
		}
	}
}

// The chapter's Errors, those of 14: a root, a child that is no node, one that is outside.
func TestLeads(t *testing.T) {
	for _, c := range []struct {
		at   api.Addr
		code api.Errno
	}{
		{64, api.ErrBytes}, {1024, api.ErrBytes}, {0, api.ErrBytes},
		{3072, api.ErrRange}, {3072 - 24, api.ErrRange}, {1089, api.ErrRange}, {1 << 32, api.ErrRange}, {math.MaxUint64, api.ErrRange},
	} {
		for _, above := range []bool{false, true} {
			l, at, _ := one(t)
			l.store(16, uint64(c.at))
			if above {
				l.store(16, uint64(at))
				l.lay(at, api.Node{Level: 1, First: c.at, Keys: [8]uint64{90}, Ptrs: [8]api.Addr{1}})
			}
			for _, key := range []uint64{5, 6} {
				x := l.site()
				lines := len(x.Mem().Lines())
				refused(t, get.New(x, 0, key), x.Mem(), 110, c.code)
				if len(x.Mem().Lines()) != lines {
					t.Error("a get that is refused lets something last")
				}
			}
		}
	}
}

// The chapter's Errors, those of 11: a client that the memory has not, of a key that is there, and of one that is not, where the leaf is to last.
func TestNoClient(t *testing.T) {
	l, at, _ := one(t)
	l.store(at+48, 1)
	for _, client := range []int{-1, api.System + 1, math.MinInt, math.MaxInt} {
		for _, key := range []uint64{5, 6, 7} {
			x := l.site()
			refused(t, get.New(x, client, key), x.Mem(), 110, api.ErrArg)
			if x.Mem().Pending(at) != 1 {
				t.Error("client", client, "lets something last")
			}
		}
	}
}

// wrongs are pointers that lead to no value, in an arena of one, and how a read of each ends.
func wrongs(l *land) map[api.Addr]api.Errno {
	long, behind := l.block(1), l.block(1)
	l.words(long, 121)
	l.words(behind, 3, 0x01020304)
	return map[api.Addr]api.Errno{
		long: api.ErrBytes, behind: api.ErrBytes, 8: api.ErrBytes,
		3072: api.ErrRange, 3: api.ErrRange, 1 << 40: api.ErrRange, math.MaxUint64: api.ErrRange, math.MaxUint64 - 7: api.ErrRange,
	}
}

// The chapter's Errors, those of 12: what is no value, where the leaf was as it was: that is the answer, behind the look at the leaf, and nothing is made to last.
func TestNoValue(t *testing.T) {
	l, at, _ := one(t)
	l.store(at+48, 1)
	for ptr, code := range wrongs(l) {
		l.store(at+72, uint64(ptr))
		x := l.site()
		stats := x.Mem().Stats()
		g := get.New(x, 0, 5)
		refused(t, g, x.Mem(), 110, code)
		if d := done(x.Mem(), stats); d.Flushes+d.Fences > 0 || g.Tries() > 0 {
			t.Errorf("pointer %d: %v, begun anew %d times", ptr, d, g.Tries())
		}
		g = get.New(x, 0, 7)
		ended(t, g, x.Mem(), 110)
		tells(t, g, api.Response{Value: long("seven", 50)}, 0)
	}
}

// The chapter's Errors, those of 12: what is no value is none of them where the leaf is another one meanwhile: the get begins anew.
func TestNoValueMeanwhile(t *testing.T) {
	l, at, five := one(t)
	for ptr := range wrongs(l) {
		anew := 0
		for step := range 45 {
			x := l.site()
			x.Mem().Store(at+72, uint64(ptr))
			g, code, through := get.New(x, 0, 5), api.OK, false
			for i := 0; !through; i++ {
				if i == step {
					x.Mem().Store(at+24, 100)
					x.Mem().Store(at+72, uint64(five))
					x.Mem().Store(at+24, 101)
				}
				through, code = g.Step()
			}
			switch r := g.Response(); {
			case code == api.OK:
				tells(t, g, api.Response{Value: long("five", 56)}, g.Tries())
				anew += g.Tries()
			case r.Code != code || r.Value != "" || g.Tries() > 0 || step < 25:
				t.Fatalf("pointer %d, step %d: %d, %v", ptr, step, code, r)
			}
		}
		if anew == 0 {
			t.Errorf("pointer %d: never begun anew", ptr)
		}
	}
}

// The chapter's Errors: a memory that is there no more, behind each step; what was answered ahead of that stays.
func TestGone(t *testing.T) {
	l, _, _ := one(t)
	for _, key := range []uint64{5, 6} {
		x := l.site()
		all, _ := ended(t, get.New(x, 0, key), x.Mem(), 110)
		for steps := range all {
			x := l.site()
			was := x.Mem().Copy()
			g := get.New(x, 0, key)
			for range steps {
				g.Step()
			}
			*x.Mem() = pmem.Mem{}
			tells(t, g, api.Response{}, 0)
			refused(t, g, x.Mem(), 3, api.ErrNil)
			*x.Mem() = *was
			stays(t, g, x.Mem(), api.ErrNil)
		}
		x = l.site()
		g := get.New(x, 0, key)
		ended(t, g, x.Mem(), 110)
		*x.Mem() = pmem.Mem{}
		stays(t, g, x.Mem(), api.OK)
		tells(t, g, answer(map[uint64]string{5: long("five", 56)}, key), 0)
	}
}

// The chapter's Errors: a site that is a zero one from some step on ends the get, or has no part in what is left of it; whatever comes, it ends.
func TestSiteGone(t *testing.T) {
	l, _, _ := one(t)
	for steps := range 40 {
		x := l.site()
		m, y := x.Mem(), *x
		g := get.New(&y, 0, 5)
		for range steps {
			g.Step()
		}
		y = site.Site{}
		_, e := ended(t, g, m, 110)
		switch r := g.Response(); e {
		case api.OK:
			tells(t, g, api.Response{Value: long("five", 56)}, 0)
		case api.ErrNil:
			tells(t, g, api.Response{Code: e}, 0)
		default:
			t.Fatal(steps, e, r)
		}
	}
}

// P15.1: a get that never finds its leaf as it was never ends by itself, and each of its steps does, and tells nothing.
func TestNeverStill(t *testing.T) {
	l, at, _ := one(t)
	x := l.site()
	g := get.New(x, 0, 5)
	for i := range 20000 {
		if g.Tries() > 500 {
			return
		}
		if i%33 == 32 {
			x.Mem().Store(at+24, uint64(1000+i))
		}
		if through, e := g.Step(); through || e != api.OK {
			t.Fatal(through, e)
		}
		tells(t, g, api.Response{}, g.Tries())
	}
	t.Error("begun anew:", g.Tries())
}
