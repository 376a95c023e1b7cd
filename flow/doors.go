package flow

import "rhyne/api"

// apart is how far two streams of one end, and of one kind, are from each other: what is left over tells the end and the kind.
const apart = 4

// What is left over of a number by apart, of the streams of both directions.
const (
	ofClient = 0
	ofServer = 1
)

// maxId is the greatest number of a stream.
const maxId = apart * maxLimit

// Doors is which streams there are, of both ends.
type Doors struct {
	own, other int // what is left over of each end's streams
	there      map[int]struct{}
	opened     int
	allowed    int // how many of one's own may be opened
	most       int // how many of the other end's may be there
	spoken     int // how many of the other end's are there, or were
	through    int // how many of these are through
	count      int // how many of these there may be
}

// NewDoors answers the doors of an end without streams yet; of the other end's so many may be there at one time.
func NewDoors(server bool, most int) (*Doors, api.Errno) {
	if most < 1 || most > api.MaxStreams {
		return nil, api.ErrArg
	}
	d := &Doors{own: ofClient, other: ofServer, there: map[int]struct{}{}, most: most, count: most}
	if server {
		d.own, d.other = d.other, d.own
	}
	return d, api.OK
}

// Open answers the next stream of one's own.
func (d *Doors) Open() (int, api.Errno) {
	if !d.ready() {
		return 0, api.ErrArg
	}
	if d.opened >= d.allowed {
		return 0, api.ErrFull
	}
	id := apart*d.opened + d.own
	d.there[id] = struct{}{}
	d.opened++
	return id, api.OK
}

// Allow lets so many streams of one's own be opened in all.
func (d *Doors) Allow(count int) {
	if d.ready() {
		d.allowed = raised(d.allowed, count)
	}
}

// Come tells that the other end speaks of a stream. It answers which ones are new by that.
func (d *Doors) Come(id int) ([]int, api.Errno) {
	if !d.ready() || id < 0 || id > maxId {
		return nil, api.ErrArg
	}
	switch at := id / apart; id % apart {
	case d.own:
		if at >= d.opened {
			return nil, api.ErrState
		}
		return nil, api.OK
	case d.other:
		if at >= d.count {
			return nil, api.ErrFlow
		}
		return d.enter(at), api.OK
	}
	return nil, api.ErrForm
}

// Leave tells that a stream is through.
func (d *Doors) Leave(id int) api.Errno {
	if !d.ready() {
		return api.ErrArg
	}
	if _, ok := d.there[id]; !ok {
		return api.ErrMiss
	}
	delete(d.there, id)
	if id%apart == d.other {
		d.through++
	}
	return api.OK
}

// Grant answers how many streams the other end may have had in all; true: that is to be told.
func (d *Doors) Grant() (int, bool) {
	if !d.ready() {
		return 0, false
	}
	if d.count-d.through >= d.most {
		return d.count, false
	}
	d.count = d.through + d.most
	return d.count, true
}

// enter answers the other end's streams up to the one at a place that weren't there ever; they are there now.
func (d *Doors) enter(at int) []int {
	var l []int
	for ; d.spoken <= at; d.spoken++ {
		id := apart*d.spoken + d.other
		d.there[id] = struct{}{}
		l = append(l, id)
	}
	return l
}

// ready tells whether d was made by NewDoors.
func (d *Doors) ready() bool {
	return d != nil && d.most > 0
}
