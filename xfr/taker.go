package xfr

import (
	"strings"

	"rhyne/api"
	"rhyne/name"
	"rhyne/serial"
	"rhyne/zone"
)

// maxTaken is by how many records a zone may be handed over.
const maxTaken = 2000

// phase is how far a zone was handed over.
type phase int

const (
	begins phase = iota // nothing came
	told                // the goal came, and nothing else
	whole               // all records come, up to the goal once more
	going               // a step's first SOA came, and now those that go
	coming              // its second one came, and now those that come
	through
	gaveUp
)

// Taker is whoever is handed a zone.
type Taker struct {
	origin string
	phase  phase
	count  int          // how many records came
	goal   api.Record   // the SOA of the version that is handed over
	zone   *zone.Zone   // what one had; what steps made of it up to now; in the end what was handed over
	others []api.Record // those that came up to now, where all come
	step   serial.Step  // what came up to now of the step that comes
}

// New answers a taker that has a zone already, or none, of an origin.
func New(have *zone.Zone, origin string) (*Taker, api.Errno) {
	if _, e := name.Labels(origin); e != api.OK {
		return nil, e
	}
	if have != nil && have.Origin() != origin {
		return nil, api.ErrArg
	}
	return &Taker{origin: strings.Clone(origin), zone: have}, api.OK
}

// Take takes the next records; true: all are there.
func (t *Taker) Take(l []api.Record) (bool, api.Errno) {
	if !t.ready() {
		return false, api.ErrArg
	}
	if t.phase == through || t.phase == gaveUp {
		return false, api.ErrState
	}
	for _, r := range l {
		if !t.take(r) {
			t.giveUp()
			return false, api.ErrForm
		}
	}
	return t.phase == through, api.OK
}

// End answers the zone that there is when no more records come.
func (t *Taker) End() (*zone.Zone, api.Errno) {
	if !t.ready() {
		return nil, api.ErrArg
	}
	if t.phase == gaveUp {
		return nil, api.ErrState
	}
	if t.phase != through && !t.unchanged() {
		t.giveUp()
		return nil, api.ErrForm
	}
	return t.zone, api.OK
}

// ready tells whether New made t.
func (t *Taker) ready() bool {
	return t != nil && t.origin != ""
}

// giveUp forgets all that came.
func (t *Taker) giveUp() {
	*t = Taker{origin: t.origin, phase: gaveUp}
}

// take takes one record; false: it isn't right.
func (t *Taker) take(r api.Record) bool {
	t.count++
	if t.count > maxTaken {
		return false
	}
	r = ownTexts(r)
	if isSOA(r) {
		return t.turn(r)
	}
	return t.gather(r)
}

// turn takes an SOA: something begins with it, or ends; false: it isn't right.
func (t *Taker) turn(soa api.Record) bool {
	switch t.phase {
	case begins:
		t.goal, t.phase = soa, told
		return soa.Name == t.origin
	case told:
		return t.begin(soa)
	case whole:
		return soa == t.goal && t.finish(zone.Build(t.origin, append(t.others, soa)))
	case going:
		t.step.To, t.phase = soa, coming
		return true
	case coming:
		return t.apply() && t.begin(soa)
	}
	return false
}

// gather takes a record that is no SOA; false: it isn't right.
func (t *Taker) gather(r api.Record) bool {
	switch t.phase {
	case told, whole:
		t.phase = whole
		t.others = append(t.others, r)
	case going:
		t.step.Gone = append(t.step.Gone, r)
	case coming:
		t.step.Came = append(t.step.Came, r)
	default:
		return false
	}
	return true
}

// begin begins a step with its first SOA, or finishes with it; false: it isn't that of the zone up to now, or there is none.
func (t *Taker) begin(soa api.Record) bool {
	have, _, ok := parted(t.zone)
	if !ok || soa != have {
		return false
	}
	if soa == t.goal {
		return t.finish(t.zone, api.OK)
	}
	t.step, t.phase = serial.Step{From: soa}, going
	return true
}

// apply makes the step that came; false: it can't be made.
func (t *Taker) apply() bool {
	z, e := serial.Apply(t.zone, t.step)
	t.zone = z
	return e == api.OK
}

// finish is through with a zone, if there is no error, and forgets all else that came.
func (t *Taker) finish(z *zone.Zone, e api.Errno) bool {
	*t = Taker{origin: t.origin, phase: through, zone: z}
	return e == api.OK
}

// unchanged tells whether the goal alone came, and what one has is no older than it.
func (t *Taker) unchanged() bool {
	_, others, ok := parted(t.zone)
	if t.phase != told || !ok {
		return false
	}
	z, e := zone.Build(t.origin, append(others, t.goal))
	return e == api.OK && !serial.Less(t.zone.Serial(), z.Serial())
}
