package loss_test

import (
	"math"
	"slices"
	"testing"

	"rhyne/api"
	"rhyne/loss"
)

const top = 1 << 40

// span is one of some numbers.
func span(from, to int) []loss.Span {
	return []loss.Span{{From: from, To: to}}
}

// one is a span of one number.
func one(n int) []loss.Span {
	return span(n, n)
}

// sends tells of a packet of 100 bytes that asks.
func sends(t *testing.T, s *loss.State, at int, numbers ...int) {
	t.Helper()
	for _, n := range numbers {
		sendsOf(t, s, n, 100, true, at)
	}
}

// sendsOf tells of a packet.
func sendsOf(t *testing.T, s *loss.State, number, size int, asks bool, at int) {
	t.Helper()
	if e := s.Sent(number, size, asks, at); e != api.OK {
		t.Fatalf("Sent %d at %d: %d", number, at, e)
	}
}

// told tells whether an answer to Acked is that some came, and some are given up.
func told(t *testing.T, came, lost []int) func([]int, []int, api.Errno) {
	t.Helper()
	return func(a, b []int, e api.Errno) {
		t.Helper()
		if e != api.OK || !slices.Equal(a, came) || !slices.Equal(b, lost) {
			t.Errorf("Acked: %v, %v, %d; not %v, %v", a, b, e, came, lost)
		}
	}
}

// refused tells whether an answer to Acked is an error, and nothing beside.
func refused(t *testing.T, what string, want api.Errno) func([]int, []int, api.Errno) {
	t.Helper()
	return func(a, b []int, e api.Errno) {
		t.Helper()
		if e != want || len(a) != 0 || len(b) != 0 {
			t.Errorf("Acked, %s: %v, %v, %d; not %d", what, a, b, e, want)
		}
	}
}

// fires tells whether an answer to Fire is that some are given up, or that one is to be sent.
func fires(t *testing.T, lost []int, ask bool) func([]int, bool, api.Errno) {
	t.Helper()
	return func(l []int, b bool, e api.Errno) {
		t.Helper()
		if e != api.OK || !slices.Equal(l, lost) || b != ask {
			t.Errorf("Fire: %v, %v, %d; not %v, %v", l, b, e, lost, ask)
		}
	}
}

// timer tells whether something is to be done at a time; -1: never.
func timer(t *testing.T, s *loss.State, want int) {
	t.Helper()
	if at, ok := s.Timer(); ok != (want >= 0) || at != max(want, 0) {
		t.Errorf("Timer: %d, %v; not %d", at, ok, want)
	}
}

// trip tells whether a trip is so long, and varies so much.
func trip(t *testing.T, s *loss.State, smooth, vary int) {
	t.Helper()
	if a, b := s.Trip(); a != smooth || b != vary {
		t.Errorf("Trip: %d, %d; not %d, %d", a, b, smooth, vary)
	}
}

// room tells whether so many bytes are on their way, and may be.
func room(t *testing.T, s *loss.State, flight, window int) {
	t.Helper()
	if s.Flight() != flight || s.Window() != window || s.Room() != max(0, window-flight) {
		t.Errorf("Flight %d, Window %d, Room %d; not %d and %d", s.Flight(), s.Window(), s.Room(), flight, window)
	}
}

// P12.1: the chapter's example.
func TestKnownState(t *testing.T) {
	s := loss.New()
	sends(t, s, 0, 0, 1, 2, 3, 4)
	told(t, []int{4}, []int{0, 1})(s.Acked(one(4), 0, 40))
	trip(t, s, 40, 20)
	room(t, s, 200, 6050)
	timer(t, s, 45)
	fires(t, []int{2, 3}, false)(s.Fire(45))
	room(t, s, 0, 6050)
	timer(t, s, -1)
}

// P12.1: what is so at first.
func TestNew(t *testing.T) {
	s := loss.New()
	trip(t, s, 100, 50)
	room(t, s, 0, 12000)
	timer(t, s, -1)
	fires(t, nil, false)(s.Fire(0))
	told(t, nil, nil)(s.Acked(nil, 0, 0))
	told(t, nil, nil)(s.Acked([]loss.Span{}, top, 0))
	refused(t, "nothing was sent", api.ErrState)(s.Acked(one(0), 0, 0))
}

// P12.1, P12.4: which packets can't have gone; a refused one wasn't sent.
func TestSentRefuses(t *testing.T) {
	s := loss.New()
	for _, c := range []struct {
		number, size, at int
	}{
		{-1, 100, 0}, {math.MinInt, 100, 0}, {top + 1, 100, 0}, {math.MaxInt, 100, 0},
		{0, 0, 0}, {0, -1, 0}, {0, math.MinInt, 0}, {0, 65536, 0}, {0, math.MaxInt, 0},
		{0, 100, -1}, {0, 100, math.MinInt}, {0, 100, top + 1}, {0, 100, math.MaxInt},
	} {
		if e := s.Sent(c.number, c.size, true, c.at); e != api.ErrArg {
			t.Error(c, e)
		}
	}
	room(t, s, 0, 12000)
	sendsOf(t, s, 0, 1, true, 0)
	sendsOf(t, s, 7, 65535, true, 0)
	for _, number := range []int{-1, 0, 3, 6, 7} {
		if e := s.Sent(number, 100, true, 0); e != api.ErrArg {
			t.Error(number, e)
		}
	}
	room(t, s, 65536, 12000)
	refused(t, "not sent", api.ErrState)(s.Acked(one(8), 0, 0))
	sendsOf(t, s, top, 100, true, top)
	if e := s.Sent(top+1, 100, true, top); e != api.ErrArg {
		t.Error("behind the last", e)
	}
	told(t, []int{top}, []int{0, 7})(s.Acked(one(top), 0, top))
}

// P12.1: no time is ahead of that of a call that was taken; one that was refused doesn't count.
func TestTimesRise(t *testing.T) {
	late := map[string]func(s *loss.State, at int) api.Errno{
		"Sent":  func(s *loss.State, at int) api.Errno { return s.Sent(at+1000, 100, true, at) },
		"Acked": func(s *loss.State, at int) api.Errno { _, _, e := s.Acked(nil, 0, at); return e },
		"Fire":  func(s *loss.State, at int) api.Errno { _, _, e := s.Fire(at); return e },
	}
	for first, ahead := range late {
		for second, behind := range late {
			s := loss.New()
			sends(t, s, 3, 0)
			if e := ahead(s, 50); e != api.OK {
				t.Error(first, e)
			}
			for _, at := range []int{49, 3, 0, -1, math.MinInt, top + 1, math.MaxInt} {
				if e := behind(s, at); e != api.ErrArg {
					t.Error(first, second, at, e)
				}
			}
			if e := behind(s, 51); e != api.OK {
				t.Error(first, second, e)
			}
			if e := behind(s, 51); e != api.OK && second != "Sent" {
				t.Error(first, second, "at the same time", e)
			}
		}
	}
	s := loss.New()
	refused(t, "state", api.ErrState)(s.Acked(one(0), 0, 90))
	refused(t, "delay", api.ErrArg)(s.Acked(nil, -1, 90))
	if e := s.Sent(-1, 100, true, 90); e != api.ErrArg {
		t.Error(e)
	}
	sends(t, s, 10, 0)
	fires(t, nil, true)(s.Fire(top))
}

// P12.1, P12.4: what Acked refuses, ErrArg ahead of ErrState.
func TestAckedRefuses(t *testing.T) {
	s := loss.New()
	sends(t, s, 5, 0, 1, 2, 9)
	for _, l := range [][]loss.Span{
		span(1, 0), span(-1, 0), span(-1, -1), span(-5, 3), span(math.MaxInt, math.MinInt), span(math.MinInt, math.MaxInt),
		{{From: 0, To: 1}, {From: 2, To: 1}}, {{From: 0, To: 99}, {From: -1, To: 1}}, {{From: 9, To: 10}, {From: 3, To: 2}},
	} {
		refused(t, "spans", api.ErrArg)(s.Acked(l, 0, 10))
	}
	for _, delay := range []int{-1, math.MinInt, top + 1, math.MaxInt} {
		refused(t, "delay", api.ErrArg)(s.Acked(one(0), delay, 10))
		refused(t, "delay, of none", api.ErrArg)(s.Acked(nil, delay, 10))
		refused(t, "delay and state", api.ErrArg)(s.Acked(one(10), delay, 10))
	}
	for _, at := range []int{4, -1, math.MinInt, top + 1, math.MaxInt} {
		refused(t, "at", api.ErrArg)(s.Acked(one(0), 0, at))
		refused(t, "at and state", api.ErrArg)(s.Acked(one(10), 0, at))
	}
	for _, l := range [][]loss.Span{one(10), span(9, 10), span(0, math.MaxInt), one(math.MaxInt), {{From: 0, To: 9}, {From: 5, To: 10}}} {
		refused(t, "not sent", api.ErrState)(s.Acked(l, 0, 10))
	}
	room(t, s, 400, 12000)
	trip(t, s, 100, 50)
	timer(t, s, 5+325)
	told(t, []int{0, 1, 2, 9}, nil)(s.Acked([]loss.Span{{From: 9, To: 9}, {From: 0, To: 3}}, top, 5))
}

// P12.1, P12.2: numbers in spans of any order, over each other, doubled, and of no packet; each comes once.
func TestSpans(t *testing.T) {
	s := loss.New()
	sends(t, s, 0, 1, 3, 5, 6, 7, 8, 9)
	told(t, []int{3, 7, 9}, []int{1, 5, 6})(s.Acked([]loss.Span{{From: 9, To: 9}, {From: 7, To: 7}, {From: 2, To: 4}, {From: 7, To: 7}, {From: 0, To: 0}}, 0, 0))
	told(t, []int{8}, nil)(s.Acked([]loss.Span{{From: 0, To: 9}, {From: 8, To: 8}, {From: 4, To: 6}}, 0, 0))
	told(t, nil, nil)(s.Acked(span(0, 9), 0, 1))
	s = loss.New()
	sends(t, s, 0, 0, 1, 2, 3, 4, 5, 6, 7)
	told(t, []int{0, 1, 2, 4, 5}, nil)(s.Acked([]loss.Span{{From: 4, To: 5}, {From: 0, To: 2}, {From: 1, To: 1}, {From: 5, To: 5}, {From: 4, To: 4}}, 0, 0))
	told(t, []int{3, 6, 7}, nil)(s.Acked(span(0, 7), 0, 0))
}

// P12.1: the samples of trips: the first one, and others, with delays.
func TestTrip(t *testing.T) {
	s := loss.New()
	sends(t, s, 0, 0)
	told(t, []int{0}, nil)(s.Acked(one(0), 1000, 81))
	trip(t, s, 81, 40) // of the first one no delay is taken off
	sends(t, s, 100, 1, 2, 3, 4, 5, 6)
	s.Acked(one(1), 5, 190) // 90, less 5: 4 away
	trip(t, s, (7*81+85)/8, (3*40+4)/4)
	trip(t, s, 81, 31)
	s.Acked(one(2), 9, 190) // 90, less 9
	trip(t, s, 81, 23)
	s.Acked(one(3), 10, 190) // 90, as 80 would be less than the least: 9 away
	trip(t, s, (7*81+90)/8, (3*23+9)/4)
	trip(t, s, 82, 19)
	s.Acked(one(4), top, 200) // 100: 18 away
	trip(t, s, (7*82+100)/8, (3*19+18)/4)
	trip(t, s, 84, 18)
	sends(t, s, 200, 7)
	s.Acked(one(7), 0, 230) // the least is 30 from now on: 54 away
	trip(t, s, (7*84+30)/8, (3*18+54)/4)
	trip(t, s, 77, 27)
	sends(t, s, 230, 8)
	s.Acked(one(8), 31, 290) // 60, as 29 would be less: 17 away
	trip(t, s, (7*77+60)/8, (3*27+17)/4)
	trip(t, s, 74, 24)
	sends(t, s, 290, 9)
	s.Acked(one(9), 30, 350) // 60, less 30: 44 away
	trip(t, s, (7*74+30)/8, (3*24+44)/4)
}

// P12.1: the least and the longest trips.
func TestEdgesOfTrips(t *testing.T) {
	s := loss.New()
	sends(t, s, 0, 0)
	told(t, []int{0}, nil)(s.Acked(one(0), 0, 0))
	trip(t, s, 0, 0)
	sends(t, s, 0, 1)
	timer(t, s, 26)
	told(t, []int{1}, nil)(s.Acked(one(1), top, 1))
	trip(t, s, 0, 0)
	s = loss.New()
	sends(t, s, 0, 0, 1, 2)
	told(t, []int{0}, nil)(s.Acked(one(0), 0, top))
	trip(t, s, top, top/2)
	told(t, []int{1}, nil)(s.Acked(one(1), top, top))
	trip(t, s, top, top/8*3)
	timer(t, s, top+top/2*3+25)
	fires(t, nil, false)(s.Fire(top))
}

// P12.1: there is a sample just if the best came now, and one of those that came asks; it is of the greatest.
func TestNoSample(t *testing.T) {
	s := loss.New()
	sends(t, s, 0, 0, 1)
	sendsOf(t, s, 2, 100, false, 0)
	sendsOf(t, s, 3, 100, false, 10)
	sends(t, s, 20, 4)
	told(t, []int{2}, nil)(s.Acked(one(2), 0, 30))
	trip(t, s, 100, 50) // none asks
	told(t, []int{1}, nil)(s.Acked(one(1), 0, 30))
	trip(t, s, 100, 50) // it isn't the best
	told(t, []int{0, 3}, nil)(s.Acked(span(0, 3), 0, 30))
	trip(t, s, 20, 10) // the greatest went at 10, the one that asks at 0
	told(t, nil, nil)(s.Acked(span(0, 3), 0, 99))
	trip(t, s, 20, 10) // none came
}

// P12.1: packets that are three numbers behind the best, or wait for long enough.
func TestGivenUp(t *testing.T) {
	s := loss.New()
	sends(t, s, 0, 0, 1, 2, 3, 4, 5, 6, 7)
	sends(t, s, 8, 8)
	told(t, []int{3}, []int{0})(s.Acked(one(3), 0, 8)) // wait-time is 9 then
	timer(t, s, 9)
	fires(t, nil, false)(s.Fire(8))
	fires(t, []int{1, 2}, false)(s.Fire(9))
	told(t, []int{5}, nil)(s.Acked(one(5), 0, 9)) // 10 then
	timer(t, s, 10)
	told(t, nil, []int{4})(s.Acked(nil, 0, 10))
	timer(t, s, 8+8+4*3+25) // of the last that asks: 6 and 7 are above the best
	told(t, nil, nil)(s.Acked(nil, 0, 16))
	told(t, []int{8}, []int{6, 7})(s.Acked(one(8), 0, 16))
	room(t, s, 0, 6050)
}

// P12.1: a wait of at least a tick; those that don't ask are given up, too, but cut no window.
func TestGivenUpOfNoTime(t *testing.T) {
	s := loss.New()
	sendsOf(t, s, 0, 100, false, 7)
	sendsOf(t, s, 1, 100, false, 7)
	sends(t, s, 7, 2)
	told(t, []int{2}, nil)(s.Acked(one(2), 0, 7))
	room(t, s, 0, 12100)
	timer(t, s, 8)
	fires(t, nil, false)(s.Fire(7))
	fires(t, []int{0, 1}, false)(s.Fire(8))
	room(t, s, 0, 12100)
	timer(t, s, -1)
}

// P12.1: the wait goes by the longer of the smooth trip and the last one; the trip's half ticks count for nothing.
func TestWaitTime(t *testing.T) {
	s := loss.New()
	sends(t, s, 0, 0)
	s.Acked(one(0), 0, 15) // 9 times 15, by 8: 16
	sends(t, s, 20, 1, 2)
	s.Acked(one(2), 0, 25) // smooth is (105 + 5) / 8 = 13: 14
	timer(t, s, 20+14)
	sends(t, s, 26, 3)
	s.Acked(one(3), 0, 32) // smooth is (91 + 6) / 8 = 12: 13
	timer(t, s, 20+13)
	fires(t, nil, false)(s.Fire(32))
	fires(t, []int{1}, false)(s.Fire(33))
	s = loss.New()
	sends(t, s, 0, 0)
	s.Acked(one(0), 0, 16)
	sends(t, s, 20, 1, 2)
	s.Acked(one(2), 0, 60) // last is 40, smooth 19: 45
	timer(t, s, 20+45)
	fires(t, nil, false)(s.Fire(64))
	told(t, nil, []int{1})(s.Acked(nil, 0, 65))
}

// P12.1: how the window grows: by each packet that asks; behind a cut, by 1200 for each time it was filled.
func TestWindow(t *testing.T) {
	s := loss.New()
	for i := range 4 {
		sendsOf(t, s, i, 1000+i, i != 1, 0)
	}
	room(t, s, 3005, 12000)
	told(t, []int{0, 1}, nil)(s.Acked(span(0, 1), 0, 10))
	room(t, s, 2005, 13000)
	told(t, []int{2, 3}, nil)(s.Acked(span(0, 3), 0, 10))
	room(t, s, 0, 15005)
	for i := 4; i < 10; i++ {
		sendsOf(t, s, i, 1200, true, 20)
	}
	told(t, []int{7}, []int{4})(s.Acked(one(7), 0, 30)) // 16205 is cut; so it isn't again for 5 and 6
	room(t, s, 4800, 8102)
	told(t, []int{8}, []int{5})(s.Acked(one(8), 0, 30))
	room(t, s, 2400, 8102)
	sendsOf(t, s, 10, 1200, true, 30) // at the time of the cut: that tells nothing either
	sendsOf(t, s, 11, 1200, true, 31)
	sendsOf(t, s, 12, 65535, true, 31)
	told(t, []int{6, 9, 10}, nil)(s.Acked(span(6, 10), 0, 31))
	room(t, s, 66735, 8102)
	told(t, []int{11}, nil)(s.Acked(one(11), 0, 31))
	room(t, s, 65535, 8102+1200*1200/8102)
	told(t, []int{12}, nil)(s.Acked(one(12), 0, 31))
	room(t, s, 0, 8279+1200*65535/8279)
}

// P12.1: at the mark the window grows slowly, packet by packet.
func TestWindowAtTheMark(t *testing.T) {
	s := loss.New()
	sends(t, s, 0, 0, 1, 2, 3)
	told(t, []int{3}, []int{0, 1, 2})(s.Acked(one(3), 0, 5)) // the mark is 6050 now
	room(t, s, 0, 6050)
	for i := 4; i < 8; i++ {
		sendsOf(t, s, i, 1210, true, 6)
	}
	told(t, []int{4, 5}, nil)(s.Acked(span(4, 5), 0, 6))
	room(t, s, 2420, 6050+240+230)
}

// P12.1, P12.3: cut again and again the window is never below 2400; then it grows slowly.
func TestLeastWindow(t *testing.T) {
	s := loss.New()
	number, at := 0, 0
	for _, want := range []int{(12000 + 300) / 2, (6150 + 3*19) / 2, 2400, 2400, 2400} {
		sends(t, s, at+10, number, number+1, number+2, number+3)
		told(t, []int{number + 1, number + 2, number + 3}, []int{number})(s.Acked(span(number+1, number+3), 0, at+11))
		room(t, s, 0, want)
		number, at = number+4, at+20
	}
	sends(t, s, at, number)
	s.Acked(one(number), 0, at)
	room(t, s, 0, 2450)
}

// P12.1: a window of 2^30 grows once more, one above it no more; a loss halves it.
func TestMostWindow(t *testing.T) {
	s := loss.New()
	number := 0
	comes := func(size, want int) {
		t.Helper()
		sendsOf(t, s, number, size, true, 0)
		told(t, []int{number}, nil)(s.Acked(one(number), 0, 0))
		room(t, s, 0, want)
		number++
	}
	for s.Window() < 1<<30 {
		size := min(65535, 1<<30-s.Window())
		comes(size, s.Window()+size)
	}
	comes(1, 1<<30+1)
	comes(1, 1<<30+1)
	comes(65535, 1<<30+1)
	sends(t, s, 1, number, number+1, number+2, number+3)
	told(t, []int{number + 3}, []int{number, number + 1, number + 2})(s.Acked(one(number+3), 0, 2))
	room(t, s, 0, 1<<29)
}

// P12.1: what is lost by Fire's time cuts the window as well, at that time.
func TestFireCuts(t *testing.T) {
	s := loss.New()
	sends(t, s, 0, 0, 1, 2, 3, 4)
	sends(t, s, 30, 5)
	told(t, []int{2}, nil)(s.Acked(one(2), 0, 40))
	room(t, s, 500, 12100)
	fires(t, []int{0, 1}, false)(s.Fire(47)) // 2 ticks late
	room(t, s, 300, 6050)
	told(t, []int{3, 5}, []int{4})(s.Acked([]loss.Span{{From: 3, To: 3}, {From: 5, To: 5}}, 0, 47))
	room(t, s, 0, 6050) // all of them went ahead of 47
	sends(t, s, 47, 6, 7)
	sends(t, s, 48, 8)
	told(t, []int{7}, nil)(s.Acked(one(7), 0, 90)) // last is 43: 48
	fires(t, []int{6}, false)(s.Fire(95))
	room(t, s, 100, 6050) // 6 and 7 went no later than it
	told(t, []int{8}, nil)(s.Acked(one(8), 0, 95))
	room(t, s, 0, 6050+1200*100/6050)
}

// P12.1: the time to ask goes by the last packet that asks, and is doubled each time, five times at most.
func TestAsk(t *testing.T) {
	s := loss.New()
	sendsOf(t, s, 0, 100, false, 3)
	timer(t, s, -1)
	fires(t, nil, false)(s.Fire(1000))
	sends(t, s, 1000, 1)
	sends(t, s, 1010, 2)
	sendsOf(t, s, 3, 100, false, 1020)
	timer(t, s, 1335)
	fires(t, nil, false)(s.Fire(1334))
	for tries, wait := range []int{325, 650, 1300, 2600, 5200, 10400, 10400, 10400} {
		timer(t, s, 1010+wait)
		fires(t, nil, true)(s.Fire(1010 + wait))
		timer(t, s, 1010+325<<min(tries+1, 5))
	}
	room(t, s, 200, 12000)
	told(t, nil, nil)(s.Acked(nil, 0, 99999))
	timer(t, s, 1010+10400) // none came: as often as ahead
	told(t, []int{3}, []int{0, 1, 2})(s.Acked(one(3), 0, 99999))
	timer(t, s, -1)
	sends(t, s, 100000, 4)
	timer(t, s, 100000+325) // one came
}

// P12.1: while there is a time of loss, the time to ask doesn't count, though it be ahead.
func TestLossAheadOfAsk(t *testing.T) {
	s := loss.New()
	sends(t, s, 0, 0)
	s.Acked(one(0), 0, 10)
	sends(t, s, 10, 1, 2)
	s.Acked(one(2), 990, 1010) // last is 1000, and the trip still 10 and 3
	trip(t, s, 10, 3)
	sends(t, s, 1010, 3)
	timer(t, s, 10+1125)
	fires(t, nil, false)(s.Fire(1010 + 47))
	fires(t, nil, false)(s.Fire(1134))
	fires(t, []int{1}, false)(s.Fire(1135))
	timer(t, s, 1010+47)
	fires(t, nil, true)(s.Fire(1135))
	timer(t, s, 1010+94)
}

// P12.1, P12.4: what Fire refuses.
func TestFireRefuses(t *testing.T) {
	s := loss.New()
	sends(t, s, 10, 0)
	for _, at := range []int{9, 0, -1, math.MinInt, top + 1, math.MaxInt} {
		if l, ask, e := s.Fire(at); e != api.ErrArg || ask || len(l) != 0 {
			t.Error(at, l, ask, e)
		}
	}
	timer(t, s, 335)
}

// P12.1, P12.3: no room is less than none.
func TestRoom(t *testing.T) {
	s := loss.New()
	sendsOf(t, s, 0, 11999, true, 0)
	room(t, s, 11999, 12000)
	sendsOf(t, s, 1, 65535, false, 0)
	room(t, s, 11999, 12000)
	sendsOf(t, s, 2, 1, true, 0)
	room(t, s, 12000, 12000)
	sendsOf(t, s, 3, 65535, true, 0)
	room(t, s, 12000+65535, 12000)
	if s.Room() != 0 {
		t.Error(s.Room())
	}
}

// P1, P12.1: a state that isn't one.
func TestNoState(t *testing.T) {
	for _, s := range []*loss.State{nil, {}} {
		if e := s.Sent(0, 100, true, 0); e != api.ErrArg {
			t.Error("Sent", e)
		}
		refused(t, "no state", api.ErrArg)(s.Acked(nil, 0, 0))
		refused(t, "no state", api.ErrArg)(s.Acked(one(0), 0, 0))
		if l, ask, e := s.Fire(0); len(l) != 0 || ask || e != api.ErrArg {
			t.Error("Fire", l, ask, e)
		}
		timer(t, s, -1)
		trip(t, s, 0, 0)
		room(t, s, 0, 0)
	}
}

// Rule 4: spans that are handed in stay as they are; answers are new memory, each its own.
func TestMemory(t *testing.T) {
	s := loss.New()
	sends(t, s, 0, 0, 1, 2, 3, 4, 5, 6, 7)
	l := []loss.Span{{From: 7, To: 7}, {From: 4, To: 5}, {From: 4, To: 4}, {From: 0, To: 0}, {From: 9, To: 9}}
	held := slices.Clone(l)
	came, lost, e := s.Acked(l[:4], 0, 0)
	if !slices.Equal(l, held) {
		t.Error("changed", l)
	}
	want := slices.Clone(lost)
	for i := range came[:cap(came)] {
		came[:cap(came)][i] = -1
	}
	if e != api.OK || !slices.Equal(lost, want) {
		t.Error("shared", lost)
	}
	for i := range lost[:cap(lost)] {
		lost[:cap(lost)][i] = -1
	}
	told(t, []int{6}, nil)(s.Acked(span(0, 7), 0, 0))
}
