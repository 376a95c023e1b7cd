package farm

import (
	"iter"
	"slices"

	"rhyne/api"
	"rhyne/cache"
	"rhyne/doq"
	"rhyne/msg"
)

// askTime is how long the forwarder waits for the primary.
const askTime = 10000

// forwarder is the node that asks the primary, and keeps what it was answered.
type forwarder struct {
	node
	kept    *cache.Cache[api.Question, stored]
	queries []*query
}

// stored is an answer, and when it came.
type stored struct {
	message msg.Message
	at      int
}

// query is a question that the primary is asked, for all who wait for its answer.
type query struct {
	single
	forwarder *forwarder
	at        int // when it was asked
	through   bool
	places    []place
}

// place is a stream on which an answer is to go.
type place struct {
	guest *guest
	id    int
}

// begin makes the forwarder ready.
func (w *forwarder) begin(f *Farm) {
	w.node = newNode(f, Forwarder, Primary)
	w.open(w)
	w.restart()
}

// restart forgets all.
func (w *forwarder) restart() {
	w.forget()
	w.queries = nil
	// As many as that a cache may keep.
	w.kept, _ = cache.New[api.Question, stored](api.MaxCache)
}

// act answers what it can, and asks the rest.
func (w *forwarder) act() {
	w.listen()
	for _, x := range w.queries {
		if x.waits() && w.farm.now-x.at >= askTime {
			x.tell(told(x.q, msg.Failed))
		}
	}
	w.queries = slices.DeleteFunc(w.queries, func(x *query) bool { return !x.waits() })
	w.send()
}

// alarms are the connections', and when questions have failed.
func (w *forwarder) alarms() []int {
	all := w.node.alarms()
	for _, x := range w.queries {
		all = append(all, x.at+askTime)
	}
	return all
}

// answer answers of what is kept, or asks the primary.
func (w *forwarder) answer(g *guest, id int, s string) {
	m, e := msg.Get([]byte(s))
	if e != api.OK || m.Id != 0 || m.Answer || m.Kind != 0 || len(m.Ask) != 1 {
		// What is wrong with it is told without a zone, too.
		g.serve(id, s, nil)
		return
	}
	q, now := m.Ask[0], w.farm.now
	if q.Type == doq.Whole || q.Type == doq.Changes {
		g.say(id, framed(told(q, msg.NotDone)))
		return
	}
	if x, _, ok := w.kept.Get(q, now); ok {
		g.say(id, framed(aged(x.message, now-x.at)))
		return
	}
	w.wait(q, place{guest: g, id: id})
}

// wait asks the primary, unless that was asked already, on behalf of one who waits.
func (w *forwarder) wait(q api.Question, p place) {
	for _, x := range w.queries {
		if x.q == q && x.waits() {
			x.places = append(x.places, p)
			return
		}
	}
	x := &query{single: single{q: q}, forwarder: w, at: w.farm.now, places: []place{p}}
	w.queries = append(w.queries, x)
	w.lines[0].add(x)
}

// keep keeps an answer as long as each of its records holds.
func (w *forwarder) keep(q api.Question, m msg.Message) {
	if m.Code != msg.Fine && m.Code != msg.NoName {
		return
	}
	if ttl, ok := cache.Least(recordsOf(m), func(r api.Record) int { return r.TTL }); ok {
		w.kept.Put(q, stored{message: m, at: w.farm.now}, ttl, w.farm.now)
	}
}

// waits tells whether the primary's answer isn't there yet.
func (x *query) waits() bool {
	return !x.through
}

// hear takes the primary's answer.
func (x *query) hear(s string) {
	if m, e := doq.Accept(x.q, s); e == api.OK {
		x.forwarder.keep(x.q, m)
		x.tell(m)
	}
}

// tell answers all who wait.
func (x *query) tell(m msg.Message) {
	x.through = true
	for _, p := range x.places {
		p.guest.say(p.id, framed(m))
	}
}

// told is an answer that has a code alone.
func told(q api.Question, code int) msg.Message {
	return msg.Message{Answer: true, Wanted: true, Code: code, Ask: []api.Question{q}}
}

// framed is a message as it stands on a stream. Those that came as bytes, and those without records, fit.
func framed(m msg.Message) []byte {
	b, _ := msg.Put(m)
	b, _ = doq.Frame(b)
	return b
}

// recordsOf goes through all records of a message.
func recordsOf(m msg.Message) iter.Seq[api.Record] {
	return slices.Values(slices.Concat(m.Answers, m.Authority, m.Extra))
}

// aged is a message whose records hold for so much less.
func aged(m msg.Message, by int) msg.Message {
	m = cloned(m)
	for _, l := range [][]api.Record{m.Answers, m.Authority, m.Extra} {
		for i := range l {
			l[i].TTL = max(l[i].TTL-by, 0)
		}
	}
	return m
}
