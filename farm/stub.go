package farm

import (
	"slices"
	"strings"

	"rhyne/api"
	"rhyne/doq"
	"rhyne/msg"
)

// maxWaiting is how many questions may wait, and waitTime how long one does.
const (
	maxWaiting = 20
	waitTime   = 40000
)

// stub is the node that asks.
type stub struct {
	node
	questions []*question // all, by their numbers
	waiting   []*question
}

// question is what the stub asked.
type question struct {
	single
	at      int // when it was asked
	state   int
	message msg.Message
}

// begin makes the stub ready.
func (s *stub) begin(f *Farm) {
	s.node = newNode(f, Stub, Primary, Secondary, Forwarder)
}

// ask asks a server. It answers the question's number.
func (s *stub) ask(server int, q api.Question) (int, api.Errno) {
	if _, e := doq.Ask(q, nil); e != api.OK {
		return 0, api.ErrForm
	}
	if len(s.waiting) >= maxWaiting {
		return 0, api.ErrFull
	}
	q.Name = strings.Clone(q.Name)
	x := &question{single: single{q: q}, at: s.farm.now}
	s.questions = append(s.questions, x)
	s.waiting = append(s.waiting, x)
	for _, l := range s.lines {
		if l.peer == server {
			l.add(x)
		}
	}
	return len(s.questions), api.OK
}

// act hears answers, gives up what waited for too long, and asks the rest.
func (s *stub) act() {
	s.listen()
	for _, x := range s.waiting {
		if x.waits() && s.farm.now-x.at >= waitTime {
			x.state = GaveUp
		}
	}
	s.waiting = slices.DeleteFunc(s.waiting, func(x *question) bool { return !x.waits() })
	s.send()
}

// alarms are the connections', and when questions are given up.
func (s *stub) alarms() []int {
	all := s.node.alarms()
	for _, x := range s.waiting {
		all = append(all, x.at+waitTime)
	}
	return all
}

// waits tells whether it has no answer, and wasn't given up.
func (x *question) waits() bool {
	return x.state == Waits
}

// hear accepts a message, if it answers the question.
func (x *question) hear(s string) {
	if m, e := doq.Accept(x.q, s); e == api.OK {
		x.message, x.state = m, Answered
	}
}

// cloned is a message in new memory.
func cloned(m msg.Message) msg.Message {
	m.Ask = slices.Clone(m.Ask)
	m.Answers, m.Authority, m.Extra = slices.Clone(m.Answers), slices.Clone(m.Authority), slices.Clone(m.Extra)
	return m
}
