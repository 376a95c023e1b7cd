package farm

import (
	"rhyne/api"
	"rhyne/doq"
	"rhyne/msg"
	"rhyne/serial"
	"rhyne/xfr"
	"rhyne/zone"
)

// The times of the secondary: when it asks again, how long it waits, how long a zone holds that isn't known to be the last one any more.
const (
	afterSuccess = 2000
	afterFailure = 1000
	takeTime     = 10000
	holdTime     = 60000
)

// secondary is the node that takes the zone over.
type secondary struct {
	node
	zone    *zone.Zone
	history *serial.History // of that zone alone
	success int             // when the last one was
	next    int             // when it asks again, if it doesn't just now
	taking  *taking
	whole   bool // whether it failed since then
}

// taking is a zone that is being taken over.
type taking struct {
	secondary *secondary
	at        int // since when
	q         api.Question
	taker     *xfr.Taker
	through   bool
	wrong     bool
}

// begin makes the secondary ready; it has no zone, and asks for it at once.
func (s *secondary) begin(f *Farm) {
	s.node = newNode(f, Secondary, Primary)
	s.open(s)
}

// restart forgets all.
func (s *secondary) restart() {
	s.forget()
	s.zone, s.history, s.taking, s.whole = nil, nil, nil, false
	s.next = s.farm.now
}

// act answers what came, and sees to it that the zone is the last version, or none, if that can't be known.
func (s *secondary) act() {
	s.listen()
	now := s.farm.now
	if t := s.taking; t != nil && (t.wrong || now-t.at >= takeTime) {
		s.fail()
	}
	if s.zone != nil && now-s.success >= holdTime {
		s.zone, s.history = nil, nil
	}
	if s.taking == nil && now >= s.next {
		s.taking = &taking{secondary: s, at: now}
		s.lines[0].add(s.taking)
	}
	s.send()
}

// alarms are the connections', and the secondary's own times.
func (s *secondary) alarms() []int {
	all := s.node.alarms()
	if s.taking != nil {
		all = append(all, s.taking.at+takeTime)
	} else {
		all = append(all, s.next)
	}
	if s.zone != nil {
		all = append(all, s.success+holdTime)
	}
	return all
}

// answer answers of the zone.
func (s *secondary) answer(g *guest, id int, text string) {
	g.serve(id, text, s.history)
}

// succeed serves a zone from now on, unless it is older than the one that there is.
func (s *secondary) succeed(z *zone.Zone) {
	now := s.farm.now
	s.taking, s.whole = nil, false
	s.success, s.next = now, now+afterSuccess
	if s.zone != nil && serial.Less(z.Serial(), s.zone.Serial()) {
		return
	}
	// There is a zone, and 0 is a count of steps.
	h, _ := serial.New(z, 0)
	s.zone, s.history = z, h
}

// fail gives up what is being taken. The next time all is asked for: changes may be more than can be taken, or than come in time, and so fail again and again. It is asked for on a new connection, where what is left is in nobody's way.
func (s *secondary) fail() {
	s.taking.through = true
	s.taking, s.whole = nil, true
	s.next = s.farm.now + afterFailure
	s.lines[0].hangUp()
}

// waits tells whether the zone isn't there yet.
func (t *taking) waits() bool {
	return !t.through && !t.wrong
}

// ask asks for what has changed, or for all.
func (t *taking) ask() []byte {
	have := t.secondary.zone
	if t.secondary.whole {
		have = nil
	}
	t.q = api.Question{Name: origin, Type: doq.Whole}
	if have != nil {
		t.q.Type = doq.Changes
	}
	// The zone, if there is one, is of that origin.
	t.taker, _ = xfr.New(have, origin)
	b, _ := doq.Ask(t.q, have)
	return b
}

// hear takes a part.
func (t *taking) hear(s string) {
	m, e := doq.Accept(t.q, s)
	if e != api.OK || m.Code != msg.Fine {
		t.wrong = true
		return
	}
	if _, e := t.taker.Take(m.Answers); e != api.OK {
		t.wrong = true
	}
}

// end finds that all parts are there, or that they aren't.
func (t *taking) end(code int) {
	z, e := t.taker.End()
	if e != api.OK || code != doq.NoError {
		t.wrong = true
		return
	}
	t.through = true
	t.secondary.succeed(z)
}
