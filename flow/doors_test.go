package flow_test

import (
	"math"
	"math/rand"
	"slices"
	"testing"

	"rhyne/api"
	"rhyne/flow"
)

// doors are those of an end without streams.
func doors(t *testing.T, server bool, most int) *flow.Doors {
	t.Helper()
	d, e := flow.NewDoors(server, most)
	if d == nil || e != api.OK {
		t.Fatal("NewDoors", e)
	}
	return d
}

// comes tells whether some streams are new by another.
func comes(t *testing.T, d *flow.Doors, id int, want ...int) {
	t.Helper()
	if l, e := d.Come(id); e != api.OK || !slices.Equal(l, want) {
		t.Errorf("Come(%d): %v, %d; not %v", id, l, e, want)
	}
}

// comesNot tells whether streams are refused.
func comesNot(t *testing.T, d *flow.Doors, want api.Errno, ids ...int) {
	t.Helper()
	for _, id := range ids {
		if l, e := d.Come(id); e != want || len(l) != 0 {
			t.Errorf("Come(%d): %v, %d; not %d", id, l, e, want)
		}
	}
}

// opens tells whether a stream is the next of one's own; -1: there may be none.
func opens(t *testing.T, d *flow.Doors, want int) {
	t.Helper()
	id, e := d.Open()
	if want >= 0 && (id != want || e != api.OK) || want < 0 && (id != 0 || e != api.ErrFull) {
		t.Errorf("Open: %d, %d; not %d", id, e, want)
	}
}

// leaves tells whether leaving each of some streams is answered so.
func leaves(t *testing.T, d *flow.Doors, want api.Errno, ids ...int) {
	t.Helper()
	for _, id := range ids {
		if e := d.Leave(id); e != want {
			t.Errorf("Leave(%d): %d, not %d", id, e, want)
		}
	}
}

// P14.1: the chapter's example.
func TestKnownDoors(t *testing.T) {
	d := doors(t, true, 2)
	comes(t, d, 4, 0, 4)
	comesNot(t, d, api.ErrFlow, 8)
	leaves(t, d, api.OK, 0)
	granted(t, 3, true)(d.Grant())
	comes(t, d, 8, 8)
}

// P14.1: how many streams there may be.
func TestNewDoors(t *testing.T) {
	for _, server := range []bool{false, true} {
		for _, most := range []int{0, -1, math.MinInt, api.MaxStreams + 1, math.MaxInt} {
			if d, e := flow.NewDoors(server, most); d != nil || e != api.ErrArg {
				t.Error(most, e)
			}
		}
		for _, most := range []int{1, 2, api.MaxStreams - 1, api.MaxStreams} {
			d := doors(t, server, most)
			granted(t, most, false)(d.Grant())
			opens(t, d, -1)
			first := 1
			if server {
				first = 0
			}
			comesNot(t, d, api.ErrFlow, 4*most+first)
			if l, e := d.Come(4*most - 4 + first); e != api.OK || len(l) != most || l[0] != first || !slices.IsSorted(l) {
				t.Error(most, l, e)
			}
		}
	}
}

// P14.1: one's own streams, in their order, as many as are allowed.
func TestOpen(t *testing.T) {
	for first, server := range []bool{false, true} {
		d := doors(t, server, 1)
		for _, count := range []int{0, -1, math.MinInt} {
			d.Allow(count)
			opens(t, d, -1)
		}
		d.Allow(2)
		opens(t, d, first)
		opens(t, d, 4+first)
		opens(t, d, -1)
		d.Allow(1)
		opens(t, d, -1)
		leaves(t, d, api.OK, first)
		opens(t, d, -1) // as many in all
		d.Allow(3)
		opens(t, d, 8+first)
		opens(t, d, -1)
		d.Allow(math.MaxInt)
		for i := 3; i < 1000; i++ {
			opens(t, d, 4*i+first)
		}
		granted(t, 1, false)(d.Grant())
	}
}

// P14.1, P14.3: streams that the other end speaks of, and may not, in the errors' order.
func TestComeRefuses(t *testing.T) {
	for _, server := range []bool{false, true} {
		own, other := 0, 1
		if server {
			own, other = 1, 0
		}
		d := doors(t, server, 3)
		comesNot(t, d, api.ErrArg, -1, -2, -4, math.MinInt, 4*top+1, 4*top+2, 4*top+4, math.MaxInt)
		comesNot(t, d, api.ErrForm, 2, 3, 6, 7, 4*top-2, 4*top-1)
		comesNot(t, d, api.ErrState, own, 4+own, 4*top-4+own)
		comesNot(t, d, api.ErrFlow, 12+other, 4*top-4+other)
		if server {
			comesNot(t, d, api.ErrFlow, 4*top)
		} else {
			comesNot(t, d, api.ErrState, 4*top)
		}
		leaves(t, d, api.ErrMiss, own, other, 8+other)
		comes(t, d, other, other)
		d.Allow(1)
		comesNot(t, d, api.ErrState, own)
		opens(t, d, own)
		comes(t, d, own)
		comesNot(t, d, api.ErrState, 4+own)
		leaves(t, d, api.OK, own)
		comes(t, d, own) // it is through
		comes(t, d, 8+other, 4+other, 8+other)
		comes(t, d, 8+other)
		comes(t, d, 4+other)
		leaves(t, d, api.OK, 4+other)
		comes(t, d, 4+other)
		comesNot(t, d, api.ErrFlow, 12+other) // one is through, but no more was granted
	}
}

// P14.1, P14.3: streams that are through, and those that can't be.
func TestLeave(t *testing.T) {
	for _, server := range []bool{false, true} {
		own, other := 0, 1
		if server {
			own, other = 1, 0
		}
		d := doors(t, server, 4)
		d.Allow(2)
		opens(t, d, own)
		comes(t, d, 4+other, other, 4+other)
		leaves(t, d, api.ErrMiss, 4+own, 8+other, 2, 3, 6, 7, -1, -2, -3, -4, math.MinInt, math.MaxInt, 4*top, 4*top+4)
		leaves(t, d, api.OK, own, 4+other)
		leaves(t, d, api.ErrMiss, own, 4+other)
		granted(t, 5, true)(d.Grant())
		leaves(t, d, api.ErrMiss, own, 4+other, 8+other)
		granted(t, 5, false)(d.Grant())
		leaves(t, d, api.OK, other)
		leaves(t, d, api.ErrMiss, other)
		granted(t, 6, true)(d.Grant())
		opens(t, d, 4+own)
		leaves(t, d, api.OK, 4+own)
		granted(t, 6, false)(d.Grant()) // one's own don't count
	}
}

// P14.2: no more than most of the other end's are there; each is answered by what was told of each stream.
func TestDoorsHold(t *testing.T) {
	for seed := range 300 {
		draw := rand.New(rand.NewSource(int64(seed)))
		server, most := seed%2 == 0, 1+draw.Intn(6)
		own, other := 0, 1
		if server {
			own, other = 1, 0
		}
		d := doors(t, server, most)
		state := map[int]int{} // 1: there, 2: through
		count, through, opened, allowed := most, 0, 0, 0
		for range 300 {
			id := 4*draw.Intn(through+most+3) + draw.Intn(3)
			switch draw.Intn(6) {
			case 0, 1:
				switch {
				case id%4 == 2:
					comesNot(t, d, api.ErrForm, id)
				case id%4 == own && state[id] == 0:
					comesNot(t, d, api.ErrState, id)
				case id%4 == other && id/4 >= count:
					comesNot(t, d, api.ErrFlow, id)
				default:
					var want []int
					for i := other; i <= id && id%4 == other; i += 4 {
						if state[i] == 0 {
							state[i] = 1
							want = append(want, i)
						}
					}
					comes(t, d, id, want...)
				}
			case 2:
				if state[id] != 1 {
					leaves(t, d, api.ErrMiss, id)
					break
				}
				leaves(t, d, api.OK, id)
				state[id] = 2
				if id%4 == other {
					through++
				}
			case 3:
				tell := count-through < most
				if tell {
					count = through + most
				}
				granted(t, count, tell)(d.Grant())
			case 4:
				n := draw.Intn(10 + opened)
				allowed = max(allowed, n)
				d.Allow(n)
			case 5:
				if opened == allowed {
					opens(t, d, -1)
					break
				}
				opens(t, d, 4*opened+own)
				state[4*opened+own] = 1
				opened++
			}
			there := 0
			for id, s := range state {
				if id%4 == other && s == 1 {
					there++
				}
			}
			if there > most {
				t.Fatal(seed, there, "are there, not", most)
			}
		}
	}
}

// P1, P14.1: doors that aren't any.
func TestNoDoors(t *testing.T) {
	for _, d := range []*flow.Doors{nil, {}} {
		d.Allow(9)
		if id, e := d.Open(); id != 0 || e != api.ErrArg {
			t.Error("Open", id, e)
		}
		comesNot(t, d, api.ErrArg, 0, 1, 2, -1)
		leaves(t, d, api.ErrArg, 0, 1, 2, -1)
		granted(t, 0, false)(d.Grant())
	}
}

// Rule 4: answers are new memory.
func TestNewMemory(t *testing.T) {
	d := doors(t, true, 8)
	l, _ := d.Come(8)
	for i := range l[:cap(l)] {
		l[:cap(l)][i] = -1
	}
	comes(t, d, 16, 12, 16)
	leaves(t, d, api.OK, 0, 4, 8, 12, 16)
}
