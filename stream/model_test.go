package stream_test

import (
	"math/rand"
	"testing"

	"rhyne/api"
	"rhyne/stream"
)

// sendModel is a sending end as the chapter's words have it, byte by byte; the end is a byte more, at its place -1.
type sendModel struct {
	all             string
	closed          bool
	limit           int
	gone, due, came map[int]bool
}

func (m *sendModel) wrong(p stream.Piece) bool {
	end := p.Off + len(p.Data)
	switch {
	case p.Off < 0 || end > len(m.all) || m.all[p.Off:end] != p.Data:
		return true
	case p.Data == "" && p.Off > m.fresh():
		return true
	}
	for i := p.Off; i < end; i++ {
		if !m.gone[i] {
			return true
		}
	}
	return p.Fin && (!m.gone[-1] || end != len(m.all))
}

// places are those of a piece's bytes, and of the end.
func places(p stream.Piece) []int {
	var l []int
	for i := range p.Data {
		l = append(l, p.Off+i)
	}
	if p.Fin {
		l = append(l, -1)
	}
	return l
}

func (m *sendModel) lost(p stream.Piece) api.Errno {
	if m.wrong(p) {
		return api.ErrArg
	}
	for _, i := range places(p) {
		m.due[i] = !m.came[i]
	}
	return api.OK
}

func (m *sendModel) take(p stream.Piece) api.Errno {
	if m.wrong(p) {
		return api.ErrArg
	}
	for _, i := range places(p) {
		m.came[i], m.due[i] = true, false
	}
	return api.OK
}

func (m *sendModel) next(most int) (stream.Piece, bool) {
	if most < 1 {
		return stream.Piece{}, false
	}
	p := stream.Piece{Off: len(m.all)}
	for i := range m.all {
		switch {
		case i >= m.limit || len(p.Data) == most || p.Data != "" && i > p.Off+len(p.Data):
		case m.due[i] && p.Data == "":
			p = piece(i, m.all[i:i+1])
		case m.due[i]:
			p.Data += m.all[i : i+1]
		}
	}
	p.Fin = m.closed && m.due[-1] && p.Off+len(p.Data) == len(m.all) && m.limit >= len(m.all)
	if p.Data == "" && !p.Fin {
		return stream.Piece{}, false
	}
	for _, i := range places(p) {
		m.due[i], m.gone[i] = false, true
	}
	return p, true
}

func (m *sendModel) fresh() int {
	n := 0
	for i := range m.all {
		if m.gone[i] {
			n = i + 1
		}
	}
	return n
}

func (m *sendModel) done() bool {
	for i := range m.all {
		if !m.came[i] {
			return false
		}
	}
	return m.closed && m.came[-1]
}

// drawnPiece is a piece of a text, and sometimes of what isn't one.
func drawnPiece(draw *rand.Rand, s string) stream.Piece {
	from := draw.Intn(len(s) + 1)
	to := from + draw.Intn(min(8, len(s)-from+1))
	p := stream.Piece{Off: from, Data: s[from:to], Fin: draw.Intn(4) == 0}
	if draw.Intn(6) == 0 {
		p.Off, p.Data = from, s[from:]
	}
	if draw.Intn(20) == 0 {
		p.Off += draw.Intn(3) - 1
	}
	return p
}

// P13.1, P13.4: many calls of a sending end are answered as the model answers them.
func TestSendBesideModel(t *testing.T) {
	for seed := range 400 {
		draw := rand.New(rand.NewSource(int64(seed)))
		limit := draw.Intn(20)
		x := sending(t, limit, "")
		m := &sendModel{limit: limit, gone: map[int]bool{}, due: map[int]bool{}, came: map[int]bool{}}
		for range 200 {
			switch draw.Intn(8) {
			case 0:
				b := text(draw.Intn(9))
				want := api.OK
				if m.closed {
					want = api.ErrOver
				} else {
					for i := range b {
						m.due[len(m.all)+i] = true
					}
					m.all += b
				}
				answers(t, "Write", x.Write([]byte(b)), want)
			case 1:
				limit := draw.Intn(60)
				m.limit = max(m.limit, limit)
				x.Allow(limit)
			case 2, 3, 4:
				most := draw.Intn(10) - 1
				p, ok := x.Next(most)
				if q, is := m.next(most); p != q || ok != is {
					t.Fatal(seed, "Next", most, p, ok, q, is)
				}
			case 5:
				p := drawnPiece(draw, m.all)
				answers(t, "Lost", x.Lost(p), m.lost(p))
			case 6:
				p := drawnPiece(draw, m.all)
				answers(t, "Came", x.Came(p), m.take(p))
			case 7:
				if draw.Intn(20) != 0 {
					break
				}
				want := api.OK
				if m.closed {
					want = api.ErrOver
				} else {
					m.closed, m.due[-1] = true, true
				}
				answers(t, "Close", x.Close(), want)
			}
			if x.Fresh() != m.fresh() || x.Done() != m.done() {
				t.Fatal(seed, x.Fresh(), m.fresh(), x.Done(), m.done())
			}
		}
	}
}

// recvModel is a taking end as the chapter's words have it, byte by byte.
type recvModel struct {
	came                map[int]byte
	window, limit, read int
	size, farthest      int // -1: not known
	reset, dropped      bool
}

func (m *recvModel) take(p stream.Piece) (int, api.Errno) {
	end := p.Off + len(p.Data)
	switch {
	case p.Off < 0 || p.Off > top:
		return 0, api.ErrArg
	case m.size >= 0 && end > m.size, p.Fin && m.size >= 0 && end != m.size, p.Fin && m.farthest > end:
		return 0, api.ErrSize
	case end > m.limit:
		return 0, api.ErrFlow
	}
	ahead := max(0, m.farthest, m.size)
	m.farthest = max(m.farthest, end)
	if p.Fin {
		m.size = end
	}
	for i := range len(p.Data) {
		if _, ok := m.came[p.Off+i]; !ok && !m.reset {
			m.came[p.Off+i] = p.Data[i]
		}
	}
	return max(0, end-ahead), api.OK
}

func (m *recvModel) giveUp(size int) (int, api.Errno) {
	held := *m
	held.came = map[int]byte{}
	n, e := held.take(last(size, ""))
	if e != api.OK {
		return 0, e
	}
	m.size, m.farthest, m.reset = size, max(m.farthest, size), true
	for i := range size {
		if _, ok := m.came[i]; !ok {
			m.dropped = true
		}
	}
	return n, api.OK
}

func (m *recvModel) next(most int) (string, bool, api.Errno) {
	switch {
	case most < 0:
		return "", false, api.ErrArg
	case m.dropped:
		return "", false, api.ErrOver
	}
	s := ""
	for len(s) < most {
		b, ok := m.came[m.read]
		if !ok {
			break
		}
		s += string([]byte{b})
		m.read++
	}
	return s, m.read == m.size, api.OK
}

func (m *recvModel) grant() (int, bool) {
	if m.limit-m.read >= m.window/2 || m.size >= 0 || m.reset {
		return m.limit, false
	}
	m.limit = m.read + m.window
	return m.limit, true
}

// P13.1, P13.4: many calls of a taking end are answered as the model answers them.
func TestRecvBesideModel(t *testing.T) {
	for seed := range 1500 {
		draw := rand.New(rand.NewSource(int64(seed)))
		window := 1 + draw.Intn(30)
		r := taking(t, window)
		m := &recvModel{came: map[int]byte{}, window: window, limit: window, size: -1, farthest: -1}
		for range 100 {
			switch draw.Intn(8) {
			default:
				b := []byte(text(draw.Intn(12)))
				for i := range b {
					b[i] += byte(draw.Intn(200))
				}
				p := stream.Piece{Off: m.read + draw.Intn(window+4) - 3, Data: string(b), Fin: draw.Intn(60) == 0}
				n, e := r.Take(p)
				if a, f := m.take(p); n != a || e != f {
					t.Fatal(seed, "Take", p, n, e, a, f)
				}
			case 0:
				if draw.Intn(20) != 0 {
					break
				}
				size := m.read + draw.Intn(window+3) - 1
				n, e := r.Reset(size)
				if a, f := m.giveUp(size); n != a || e != f {
					t.Fatal(seed, "Reset", size, n, e, a, f)
				}
			case 1, 2:
				most := draw.Intn(15) - 1
				s, fin, e := r.Read(most)
				if a, b, f := m.next(most); s != a || fin != b || e != f {
					t.Fatal(seed, "Read", most, s, fin, e, a, b, f)
				}
			case 3:
				n, ok := r.Grant()
				if a, b := m.grant(); n != a || ok != b {
					t.Fatal(seed, "Grant", n, ok, a, b)
				}
			}
			sized(t, r, m.size)
		}
	}
}

// P13.2: whatever pieces come, what is read are the first bytes; all of them when all came.
func TestAnyPieces(t *testing.T) {
	for seed := range 300 {
		draw := rand.New(rand.NewSource(int64(seed)))
		s := text(draw.Intn(2000))
		r := taking(t, 2000)
		read, end := "", false
		come := make([]bool, len(s)+1)
		for rest := len(s) + 1; rest > 0; {
			from := draw.Intn(len(s) + 1)
			to := min(len(s), from+draw.Intn(1+draw.Intn(200)))
			p := stream.Piece{Off: from, Data: s[from:to], Fin: to == len(s) && draw.Intn(3) == 0}
			if _, e := r.Take(p); e != api.OK {
				t.Fatal(seed, e)
			}
			for _, i := range places(p) {
				if i < 0 {
					i = len(s)
				}
				if !come[i] {
					come[i] = true
					rest--
				}
			}
			if draw.Intn(3) == 0 || rest == 0 {
				b, fin, e := r.Read(draw.Intn(300) + 2000*(1-min(rest, 1)))
				read, end = read+b, fin
				if e != api.OK || read != s[:len(read)] || end && read != s {
					t.Fatal(seed, len(read), end, e)
				}
			}
		}
		if read != s || !end {
			t.Error(seed, len(read), "of", len(s), end)
		}
	}
}

// P13.2, P13.3: what is sent on a road that loses, doubles and turns round is what was written, and all is read; then the end is done.
func TestRoad(t *testing.T) {
	for seed := range 200 {
		draw := rand.New(rand.NewSource(int64(seed)))
		s := text(draw.Intn(3000))
		window := 1 + draw.Intn(500)
		if window == 1 {
			window = 2
		}
		x, r := sending(t, window, ""), taking(t, window)
		left, read, end := s, "", false
		var road []stream.Piece
		for steps := 0; !x.Done(); steps++ {
			if steps > 200000 {
				t.Fatal(seed, "no end", len(read), "of", len(s))
			}
			switch draw.Intn(4) {
			case 0:
				n := draw.Intn(min(100, len(left)) + 1)
				if left != "" {
					answers(t, "Write", x.Write([]byte(left[:n])), api.OK)
				} else {
					x.Close()
				}
				left = left[n:]
			case 1:
				if p, ok := x.Next(1 + draw.Intn(150)); ok {
					if p.Data != s[p.Off:p.Off+len(p.Data)] || p.Fin && p.Off+len(p.Data) != len(s) {
						t.Fatal(seed, p)
					}
					road = append(road, p)
				}
			case 2:
				if len(road) == 0 {
					break
				}
				i := draw.Intn(len(road))
				p := road[i]
				road = append(road[:i], road[i+1:]...)
				switch draw.Intn(3) {
				case 0:
					answers(t, "Lost", x.Lost(p), api.OK)
				case 1: // it comes, but that is told too late
					_, e := r.Take(p)
					answers(t, "Take", e, api.OK)
					answers(t, "Lost", x.Lost(p), api.OK)
					road = append(road, p)
				case 2:
					_, e := r.Take(p)
					answers(t, "Take", e, api.OK)
					answers(t, "Came", x.Came(p), api.OK)
				}
			case 3:
				b, fin, e := r.Read(draw.Intn(300))
				read, end = read+b, fin
				if e != api.OK || read != s[:len(read)] || end && read != s {
					t.Fatal(seed, len(read), end, e)
				}
				if n, ok := r.Grant(); ok {
					x.Allow(n)
				}
			}
		}
		b, end, _ := r.Read(len(s))
		if read+b != s || !end {
			t.Error(seed, len(read), len(b), "of", len(s), end)
		}
		nothing(t, x)
	}
}
