package flow_test

import (
	"math"
	"math/rand"
	"testing"

	"rhyne/api"
	"rhyne/flow"
)

const top = 1 << 40

// purse is one to which nothing came.
func purse(t *testing.T, window int) *flow.Purse {
	t.Helper()
	p, e := flow.NewPurse(window)
	if p == nil || e != api.OK {
		t.Fatal("NewPurse", e)
	}
	return p
}

// answers tells whether an error is as it should be.
func answers(t *testing.T, what string, got, want api.Errno) {
	t.Helper()
	if got != want {
		t.Errorf("%s: %d, not %d", what, got, want)
	}
}

// granted tells whether a limit is so, and is to be told.
func granted(t *testing.T, want int, tell bool) func(int, bool) {
	t.Helper()
	return func(n int, ok bool) {
		t.Helper()
		if n != want || ok != tell {
			t.Errorf("Grant: %d, %v; not %d, %v", n, ok, want, tell)
		}
	}
}

// left tells whether so many bytes more may be sent.
func left(t *testing.T, p *flow.Purse, want int) {
	t.Helper()
	if p.Left() != want {
		t.Errorf("Left: %d, not %d", p.Left(), want)
	}
}

// P14.1: the chapter's example.
func TestKnownPurse(t *testing.T) {
	p := purse(t, 10)
	answers(t, "Take", p.Take(10), api.OK)
	answers(t, "Use", p.Use(6), api.OK)
	granted(t, 16, true)(p.Grant())
}

// P14.1: which windows there may be.
func TestNewPurse(t *testing.T) {
	for _, window := range []int{0, -1, math.MinInt, api.MaxWindow + 1, math.MaxInt} {
		if p, e := flow.NewPurse(window); p != nil || e != api.ErrArg {
			t.Error(window, e)
		}
	}
	for _, window := range []int{1, 2, 1000, api.MaxWindow} {
		p := purse(t, window)
		granted(t, window, false)(p.Grant())
		left(t, p, 0)
		answers(t, "Take", p.Take(window+1), api.ErrFlow)
		answers(t, "Take", p.Take(window), api.OK)
		answers(t, "Take", p.Take(1), api.ErrFlow)
	}
}

// P14.1, P14.3: what comes and what is used up, at the edges; a refused call changes nothing.
func TestTakeAndUse(t *testing.T) {
	p := purse(t, 10)
	answers(t, "Use", p.Use(1), api.ErrArg)
	answers(t, "Use", p.Use(0), api.OK)
	for _, n := range []int{-1, math.MinInt} {
		answers(t, "Take", p.Take(n), api.ErrArg)
		answers(t, "Use", p.Use(n), api.ErrArg)
	}
	for _, n := range []int{11, top, math.MaxInt} {
		answers(t, "Take", p.Take(n), api.ErrFlow)
	}
	answers(t, "Take", p.Take(0), api.OK)
	answers(t, "Take", p.Take(7), api.OK)
	for _, n := range []int{4, 10, math.MaxInt} {
		answers(t, "Take", p.Take(n), api.ErrFlow)
	}
	for _, n := range []int{8, 10, math.MaxInt, -1} {
		answers(t, "Use", p.Use(n), api.ErrArg)
	}
	answers(t, "Take", p.Take(3), api.OK)
	answers(t, "Use", p.Use(10), api.OK)
	answers(t, "Use", p.Use(1), api.ErrArg)
	answers(t, "Take", p.Take(1), api.ErrFlow) // nothing more was granted
	granted(t, 20, true)(p.Grant())
	answers(t, "Take", p.Take(11), api.ErrFlow)
	answers(t, "Take", p.Take(10), api.OK)
	answers(t, "Take", p.Take(-1), api.ErrArg)
}

// P14.1: when more is granted: when less than half a window is left.
func TestPurseGrants(t *testing.T) {
	for window, half := range map[int]int{1: 0, 2: 1, 3: 1, 4: 2, 5: 2, 11: 5, 65535: 32767, api.MaxWindow: 32768} {
		p := purse(t, window)
		p.Take(window)
		p.Use(window - half)
		granted(t, window, false)(p.Grant())
		if p.Use(1) == api.OK {
			granted(t, 2*window-half+1, true)(p.Grant())
			granted(t, 2*window-half+1, false)(p.Grant())
		} else if window != 1 {
			t.Error(window)
		}
	}
}

// P14.1, P14.3: what may be sent, up to the greatest limit.
func TestSpend(t *testing.T) {
	p := purse(t, 10)
	answers(t, "Spend", p.Spend(1), api.ErrFlow)
	answers(t, "Spend", p.Spend(0), api.OK)
	p.Allow(5)
	left(t, p, 5)
	for _, n := range []int{-1, math.MinInt} {
		answers(t, "Spend", p.Spend(n), api.ErrArg)
	}
	for _, n := range []int{6, math.MaxInt} {
		answers(t, "Spend", p.Spend(n), api.ErrFlow)
	}
	left(t, p, 5)
	answers(t, "Spend", p.Spend(4), api.OK)
	left(t, p, 1)
	for _, limit := range []int{5, 4, 0, -1, math.MinInt} {
		p.Allow(limit)
		left(t, p, 1)
	}
	answers(t, "Spend", p.Spend(1), api.OK)
	answers(t, "Spend", p.Spend(1), api.ErrFlow)
	p.Allow(top - 1)
	left(t, p, top-6)
	p.Allow(top + 1)
	left(t, p, top-5)
	p.Allow(math.MaxInt)
	left(t, p, top-5)
	answers(t, "Spend", p.Spend(top-4), api.ErrFlow)
	answers(t, "Spend", p.Spend(top-5), api.OK)
	left(t, p, 0)
	granted(t, 10, false)(p.Grant())
}

// P14.2: no more than a window came and wasn't used up, whatever happens; each is answered by the sums of what was told.
func TestPurseHolds(t *testing.T) {
	for seed := range 300 {
		draw := rand.New(rand.NewSource(int64(seed)))
		window := 1 + draw.Intn(40)
		p := purse(t, window)
		limit, came, used, may, sent := window, 0, 0, 0, 0
		for range 300 {
			n := draw.Intn(window+3) - 1
			want := api.OK
			switch draw.Intn(5) {
			case 0:
				switch {
				case n < 0:
					want = api.ErrArg
				case came+n > limit:
					want = api.ErrFlow
				default:
					came += n
				}
				answers(t, "Take", p.Take(n), want)
			case 1:
				if n < 0 || used+n > came {
					want = api.ErrArg
				} else {
					used += n
				}
				answers(t, "Use", p.Use(n), want)
			case 2:
				tell := limit-used < window/2
				if tell {
					limit = used + window
				}
				granted(t, limit, tell)(p.Grant())
			case 3:
				n = draw.Intn(3000)
				may = max(may, n)
				p.Allow(n)
			case 4:
				switch {
				case n < 0:
					want = api.ErrArg
				case sent+n > may:
					want = api.ErrFlow
				default:
					sent += n
				}
				answers(t, "Spend", p.Spend(n), want)
			}
			left(t, p, may-sent)
			if came-used > window {
				t.Fatal(seed, came, used)
			}
		}
	}
}

// P1, P14.1: a purse that isn't one.
func TestNoPurse(t *testing.T) {
	for _, p := range []*flow.Purse{nil, {}} {
		for _, n := range []int{-1, 0, 1} {
			answers(t, "Take", p.Take(n), api.ErrArg)
			answers(t, "Use", p.Use(n), api.ErrArg)
			answers(t, "Spend", p.Spend(n), api.ErrArg)
		}
		p.Allow(9)
		left(t, p, 0)
		granted(t, 0, false)(p.Grant())
	}
}
