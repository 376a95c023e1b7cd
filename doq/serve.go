package doq

import (
	"rhyne/api"
	"rhyne/msg"
	"rhyne/serial"
	"rhyne/xfr"
	"rhyne/zone"
)

// Serve answers all answers to a question's bytes as they stand on a stream; or the code, if these are no question.
func Serve(h *serial.History, b string, most int) ([]byte, int) {
	asked, e := msg.Get([]byte(b))
	if e != api.OK || asked.Id != 0 || asked.Answer {
		return nil, Protocol
	}
	var out []byte
	for _, m := range answers(h, asked, most) {
		out = append(out, framed(m)...)
	}
	return out, NoError
}

// answers are all answers to a message, be they as great as they may.
func answers(h *serial.History, asked msg.Message, most int) []msg.Message {
	m := blank(asked)
	m.Code = fault(h, asked)
	if m.Code != msg.Fine {
		return []msg.Message{m}
	}
	q := asked.Ask[0]
	switch q.Type {
	case Whole:
		return inParts(m, xfr.Full(h.Last()), most)
	case Changes:
		n, _ := serialTold(asked.Authority, q.Name)
		return inParts(m, xfr.Since(h, n), most)
	}
	return []msg.Message{lookedUp(m, h.Last().Lookup(q))}
}

// blank is what each answer to a message has, and nothing else.
func blank(asked msg.Message) msg.Message {
	m := msg.Message{Answer: true, Kind: asked.Kind, Wanted: asked.Wanted}
	if len(asked.Ask) == 1 {
		m.Ask = asked.Ask
	}
	return m
}

// fault is the code that says why a message gets no records; Fine: nothing is wrong with it.
func fault(h *serial.History, asked msg.Message) int {
	last := h.Last()
	switch {
	case asked.Kind != 0:
		return msg.NotDone
	case len(asked.Ask) != 1:
		return msg.BadForm
	case last == nil:
		return msg.Failed
	}
	switch asked.Ask[0].Type {
	case Whole, Changes:
		return handOverFault(last, asked)
	}
	return msg.Fine
}

// handOverFault is fault of a message that asks for a zone.
func handOverFault(z *zone.Zone, asked msg.Message) int {
	q := asked.Ask[0]
	if q.Name != z.Origin() {
		return msg.Refused
	}
	if _, ok := serialTold(asked.Authority, q.Name); q.Type == Changes && !ok {
		return msg.BadForm
	}
	return msg.Fine
}

// serialTold is the serial of the version that whoever asks has; false: it isn't told by one SOA of the origin, and nothing else.
func serialTold(l []api.Record, origin string) (int, bool) {
	if len(l) != 1 || l[0].Name != origin {
		return 0, false
	}
	n, e := msg.Serial(l[0])
	return n, e == api.OK
}

// inParts are answers that hand records over, so many in each.
func inParts(m msg.Message, l []api.Record, most int) []msg.Message {
	parts, _ := xfr.Split(l, max(most, 1))
	m.Own = true
	var all []msg.Message
	for _, part := range parts {
		m.Answers = part
		all = append(all, m)
	}
	return all
}

// lookedUp is an answer that says what a zone does.
func lookedUp(m msg.Message, r zone.Reply) msg.Message {
	m.Code, m.Own = r.Code, r.Own
	m.Answers, m.Authority, m.Extra = r.Answers, r.Authority, r.Extra
	return m
}

// framed is an answer as it stands on a stream; in place of one that is too great, that it failed.
func framed(m msg.Message) []byte {
	b, e := msg.Put(m)
	if e != api.OK {
		m = blank(m)
		m.Code = msg.Failed
		b, _ = msg.Put(m)
	}
	out, _ := Frame(b)
	return out
}
