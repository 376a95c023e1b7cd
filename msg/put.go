package msg

import (
	"rhyne/api"
	"rhyne/name"
)

// Put answers a message's bytes.
func Put(m Message) ([]byte, api.Errno) {
	if tooMany(m.counts()) {
		return nil, api.ErrBig
	}
	w := &writer{}
	w.head(m)
	for _, q := range m.Ask {
		w.question(q)
	}
	for _, l := range m.records() {
		for _, r := range l {
			w.record(r)
		}
	}
	if w.bad {
		return nil, api.ErrForm
	}
	if len(w.b) > api.MaxBytes {
		return nil, api.ErrBig
	}
	return w.b, api.OK
}

// writer makes a message's bytes. Nothing is written behind what isn't in form.
type writer struct {
	b     []byte
	names name.Table
	bad   bool
}

// need keeps that something isn't in form.
func (w *writer) need(ok bool) {
	w.bad = w.bad || !ok
}

// head writes what stands ahead of the questions.
func (w *writer) head(m Message) {
	w.need(within(m.Id, maxId) && within(m.Kind, maxKind) && within(m.Code, maxCode))
	w.number(m.Id, numberSize)
	w.number(m.Kind<<kindAt|bit(m.Answer, answerBit)|bit(m.Own, ownBit)|bit(m.Cut, cutBit)|bit(m.Wanted, wantedBit), 1)
	w.number(m.Code|bit(m.Able, ableBit), 1)
	for _, n := range m.counts() {
		w.number(n, numberSize)
	}
}

// bit is a bit, if it is set.
func bit(set bool, n int) int {
	if set {
		return n
	}
	return 0
}

// question writes a question.
func (w *writer) question(q api.Question) {
	w.need(isType(q.Type))
	w.owner(q.Name, q.Type)
}

// record writes a record.
func (w *writer) record(r api.Record) {
	w.need(Check(r) == api.OK)
	w.owner(r.Name, r.Type)
	w.number(r.TTL, ttlSize)
	w.number(len(r.Data), numberSize)
	if !w.bad {
		w.b = append(w.b, r.Data...)
	}
}

// owner writes what questions and records begin with: a name and a type.
func (w *writer) owner(s string, kind int) {
	if w.bad {
		return
	}
	b, e := w.names.Put(w.b, s)
	if e != api.OK {
		w.bad = true
		return
	}
	w.b = b
	w.number(kind, numberSize)
	w.number(class, numberSize)
}

// number writes a number's lowest bytes, so many of them, the highest first.
func (w *writer) number(n, size int) {
	for i := size - 1; i >= 0 && !w.bad; i-- {
		w.b = append(w.b, byte(n>>(8*i)))
	}
}
