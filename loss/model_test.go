package loss_test

import (
	"math/rand"
	"slices"
	"testing"

	"rhyne/api"
	"rhyne/loss"
)

// model is a state as the chapter's words have it, one after the other; fate is what became of each packet that was sent.
type model struct {
	size, at                   map[int]int
	asks                       map[int]bool
	fate                       map[int]string
	sent, best, now, tries     int
	smooth, vary, least, last  int
	sampled                    bool
	window, mark, since, moved int
}

func newModel() *model {
	return &model{
		size: map[int]int{}, at: map[int]int{}, asks: map[int]bool{}, fate: map[int]string{},
		sent: -1, best: -1, smooth: 100, vary: 50, window: 12000, mark: 1 << 40, since: -1,
	}
}

func (m *model) waiting() []int {
	var l []int
	for n := range m.fate {
		if m.fate[n] == "waits" {
			l = append(l, n)
		}
	}
	slices.Sort(l)
	return l
}

func (m *model) flight() int {
	sum := 0
	for _, n := range m.waiting() {
		if m.asks[n] {
			sum += m.size[n]
		}
	}
	return sum
}

func (m *model) wait() int { return max(9*max(m.smooth, m.last)/8, 1) }

func (m *model) send(n, size int, asks bool, at int) api.Errno {
	if n < 0 || n <= m.sent || n > top || size < 1 || size > 65535 || at < m.now || at > top {
		return api.ErrArg
	}
	m.sent, m.now = n, at
	m.size[n], m.asks[n], m.at[n], m.fate[n] = size, asks, at, "waits"
	return api.OK
}

func (m *model) acked(l []loss.Span, delay, at int) ([]int, []int, api.Errno) {
	bad := at < m.now || at > top || delay < 0 || delay > top
	for _, x := range l {
		bad = bad || x.From > x.To || x.From < 0
	}
	if bad {
		return nil, nil, api.ErrArg
	}
	for _, x := range l {
		if x.To > m.sent {
			return nil, nil, api.ErrState
		}
	}
	m.now = at
	var came []int
	for _, n := range m.waiting() {
		if slices.ContainsFunc(l, func(x loss.Span) bool { return x.From <= n && n <= x.To }) {
			came = append(came, n)
		}
	}
	if len(came) > 0 {
		m.best = max(m.best, slices.Max(came))
		if slices.Max(came) == m.best && slices.ContainsFunc(came, func(n int) bool { return m.asks[n] }) {
			m.sample(at-m.at[m.best], delay)
		}
		for _, n := range came {
			if m.asks[n] && m.at[n] > m.since {
				if m.window < m.mark {
					m.window += m.size[n]
				} else {
					m.window += 1200 * m.size[n] / m.window
				}
			}
			m.fate[n] = "came"
		}
		m.tries = 0
	}
	return came, m.giveUp(), api.OK
}

func (m *model) sample(took, delay int) {
	m.last = took
	if !m.sampled {
		m.sampled, m.least, m.smooth, m.vary = true, took, took, took/2
		return
	}
	m.least = min(m.least, took)
	adj := took
	if took >= m.least+delay {
		adj = took - delay
	}
	away := m.smooth - adj
	if away < 0 {
		away = -away
	}
	m.vary = (3*m.vary + away) / 4
	m.smooth = (7*m.smooth + adj) / 8
}

func (m *model) giveUp() []int {
	var l []int
	greatest := -1
	for _, n := range m.waiting() {
		if n <= m.best-3 || n < m.best && m.at[n] <= m.now-m.wait() {
			l = append(l, n)
			if m.asks[n] {
				greatest = n
			}
		}
	}
	for _, n := range l {
		m.fate[n] = "lost"
	}
	if greatest >= 0 && m.at[greatest] > m.since {
		m.since, m.mark = m.now, m.window/2
		m.window = max(m.mark, 2400)
	}
	return l
}

func (m *model) timer() (int, bool, bool) {
	least, asked := -1, -1
	for _, n := range m.waiting() {
		if at := m.at[n] + m.wait(); n < m.best && (least < 0 || at < least) {
			least = at
		}
		if m.asks[n] {
			asked = m.at[n]
		}
	}
	switch {
	case least >= 0:
		return least, true, true
	case asked < 0:
		return 0, false, false
	}
	wait := m.smooth + max(4*m.vary, 1) + 25
	for range m.tries {
		wait *= 2
	}
	return asked + wait, false, true
}

func (m *model) fire(at int) ([]int, bool, api.Errno) {
	if at < m.now || at > top {
		return nil, false, api.ErrArg
	}
	m.now = at
	when, ofLoss, ok := m.timer()
	switch {
	case !ok || when > at:
		return nil, false, api.OK
	case ofLoss:
		return m.giveUp(), false, api.OK
	}
	m.tries = min(m.tries+1, 5)
	return nil, true, api.OK
}

// P12.1 to P12.4: many calls, some of them wrong, are answered as the model answers them.
func TestBesideModel(t *testing.T) {
	for seed := range 300 {
		draw := rand.New(rand.NewSource(int64(seed)))
		s, m := loss.New(), newModel()
		told := map[int]bool{}
		for range 300 {
			at := m.now
			switch draw.Intn(20) {
			case 0:
				at--
			case 1:
				at += draw.Intn(1000)
			default:
				at += draw.Intn(1+seed%40) * draw.Intn(2)
			}
			var news []int
			switch draw.Intn(10) {
			default:
				n := m.sent + 1 + draw.Intn(5)/4 - draw.Intn(30)/29
				size := 1 + draw.Intn(1200<<draw.Intn(7))
				asks := draw.Intn(5) != 0
				if a, b := s.Sent(n, size, asks, at), m.send(n, size, asks, at); a != b {
					t.Fatal(seed, "Sent", n, size, at, a, b)
				}
			case 0, 1, 2:
				l, delay := drawnSpans(draw, m.sent), draw.Intn(30)-draw.Intn(30)/29*40
				a, b, e := s.Acked(l, delay, at)
				x, y, f := m.acked(l, delay, at)
				if e != f || !slices.Equal(a, x) || !slices.Equal(b, y) {
					t.Fatal(seed, "Acked", l, delay, at, a, b, e, x, y, f)
				}
				news = append(a, b...)
			case 3:
				if when, _, ok := m.timer(); ok && draw.Intn(2) == 0 {
					at = when - draw.Intn(2)
				}
				a, b, e := s.Fire(at)
				x, y, f := m.fire(at)
				if e != f || !slices.Equal(a, x) || b != y {
					t.Fatal(seed, "Fire", at, a, b, e, x, y, f)
				}
				news = a
			}
			for _, n := range news {
				if told[n] {
					t.Fatal(seed, n, "is told again")
				}
				told[n] = true
			}
			alike(t, s, m)
		}
	}
}

// drawnSpans are some of numbers up to about one.
func drawnSpans(draw *rand.Rand, last int) []loss.Span {
	var l []loss.Span
	for range draw.Intn(4) {
		to := last - draw.Intn(12)
		if draw.Intn(40) == 0 {
			to += 13
		}
		if draw.Intn(10) == 0 {
			to = last
		}
		from := to - draw.Intn(4)
		if draw.Intn(40) != 0 {
			from, to = max(0, from), max(0, to)
		}
		l = append(l, loss.Span{From: from, To: to})
	}
	return l
}

// alike tells whether a state tells of itself what the model does.
func alike(t *testing.T, s *loss.State, m *model) {
	t.Helper()
	if s.Flight() != m.flight() || s.Window() != m.window || s.Room() != max(0, m.window-m.flight()) {
		t.Fatal("Flight", s.Flight(), m.flight(), "Window", s.Window(), m.window, "Room", s.Room())
	}
	if s.Flight() < 0 || s.Window() < 2400 || s.Room() < 0 {
		t.Fatal("below the least", s.Flight(), s.Window(), s.Room())
	}
	if a, b := s.Trip(); a != m.smooth || b != m.vary {
		t.Fatal("Trip", a, b, m.smooth, m.vary)
	}
	at, ok := s.Timer()
	if x, _, y := m.timer(); at != x || ok != y {
		t.Fatal("Timer", at, ok, x, y)
	}
}
