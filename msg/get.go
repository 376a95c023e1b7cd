package msg

import (
	"rhyne/api"
	"rhyne/name"
)

// Get answers the message whose bytes b is.
func Get(b []byte) (Message, api.Errno) {
	if len(b) > api.MaxBytes {
		return Message{}, api.ErrBig
	}
	if len(b) < headSize {
		return Message{}, api.ErrForm
	}
	r := &reader{b: b}
	m, counts := r.head()
	if tooMany(counts) {
		return Message{}, api.ErrBig
	}
	m.Ask = r.questions(counts[0])
	m.Answers = r.records(counts[1])
	m.Authority = r.records(counts[2])
	m.Extra = r.records(counts[3])
	if r.bad || r.at != len(b) {
		return Message{}, api.ErrForm
	}
	return m, api.OK
}

// reader goes through a message's bytes. Nothing is read behind what isn't in form.
type reader struct {
	b   []byte
	at  int
	bad bool
}

// take is the next n bytes, which are b's own.
func (r *reader) take(n int) []byte {
	r.need(n <= len(r.b)-r.at)
	if r.bad {
		return nil
	}
	r.at += n
	return r.b[r.at-n : r.at]
}

// need keeps that something isn't in form.
func (r *reader) need(ok bool) {
	r.bad = r.bad || !ok
}

// number is the number of the next n bytes.
func (r *reader) number(n int) int {
	number := 0
	for _, v := range r.take(n) {
		number = number<<8 | int(v)
	}
	return number
}

// head reads what stands ahead of the questions, and tells the counts of these and of the records.
func (r *reader) head() (Message, [4]int) {
	var m Message
	m.Id = r.number(numberSize)
	one, other := r.number(1), r.number(1)
	m.Answer = one&answerBit != 0
	m.Kind = one >> kindAt & maxKind
	m.Own = one&ownBit != 0
	m.Cut = one&cutBit != 0
	m.Wanted = one&wantedBit != 0
	m.Able = other&ableBit != 0
	m.Code = other & maxCode
	var counts [4]int
	for i := range counts {
		counts[i] = r.number(numberSize)
	}
	return m, counts
}

// questions reads so many questions.
func (r *reader) questions(count int) []api.Question {
	var l []api.Question
	for range count {
		s, kind := r.owner()
		if r.bad {
			return nil
		}
		l = append(l, api.Question{Name: s, Type: kind})
	}
	return l
}

// records reads so many records.
func (r *reader) records(count int) []api.Record {
	var l []api.Record
	for range count {
		one := r.record()
		if r.bad {
			return nil
		}
		l = append(l, one)
	}
	return l
}

// record reads a record.
func (r *reader) record() api.Record {
	s, kind := r.owner()
	ttl := r.number(ttlSize)
	data := r.data(kind, r.number(numberSize))
	one := api.Record{Name: s, Type: kind, TTL: ttl, Data: data}
	r.need(!r.bad && Check(one) == api.OK)
	return one
}

// owner reads what questions and records begin with: a name and a type.
func (r *reader) owner() (string, int) {
	if r.bad {
		return "", 0
	}
	s, behind, e := name.Get(r.b, r.at)
	if e != api.OK {
		r.bad = true
		return "", 0
	}
	r.at = behind
	kind := r.number(numberSize)
	r.need(isType(kind))
	r.need(r.number(numberSize) == class)
	return s, kind
}

// data reads a type's data, of so many bytes. A name in it may lead to any place ahead, so all bytes are gone through for it.
func (r *reader) data(kind, count int) string {
	at := r.at
	r.take(count)
	if r.bad {
		return ""
	}
	data, ok := layoutOf(kind).written(r.b, at, r.at)
	r.need(ok)
	return data
}
