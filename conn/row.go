package conn

import (
	"cmp"
	"slices"

	"rhyne/api"
	"rhyne/frames"
	"rhyne/guard"
	"rhyne/loss"
	"rhyne/ranges"
	"rhyne/shake"
	"rhyne/stream"
)

// levels is how many levels there are; they are numbered as the talk's are.
const levels = shake.App + 1

// maxRanges is how many ranges of numbers that came are known: far more than an Ack tells, so that no packet is taken twice.
const maxRanges = 4096

// maxNumber is the greatest number of a packet.
const maxNumber = 1<<62 - 1

// maxTalk is how many bytes of the talk may go at one level.
const maxTalk = 1 << 40

// row is a level's packets, both ways, and the bytes of the talk at it.
type row struct {
	keyed      bool
	open, seal guard.Keys
	gone       bool // whether nothing is sent at this level any more
	lost       *loss.State
	next       int // the next packet's number
	acked      int // the greatest number of which the other end said that it came, -1 ahead of that
	sent       []record
	probes     int // how many packets that ask are to go, be there room or not
	came       *ranges.Set[int]
	floor      int // numbers below it count as come
	best       int // the greatest number that came, -1 ahead of the first
	bestAt     int
	owes       bool // whether something came that asks for an answer
	fresh      bool // whether anything came since the last answer
	out        *stream.Send
	in         *stream.Recv
}

// record is what a packet carried that is to be sent again if it is lost.
type record struct {
	number int
	frames []frames.Frame
	again  bool // whether it was sent again ahead of that
}

// newRow answers a level at which nothing was sent and nothing came. All is within the limits of the layers below.
func newRow() row {
	came, _ := ranges.New[int](maxRanges)
	out, _ := stream.NewSend(maxTalk)
	in, _ := stream.NewRecv(api.MaxWindow)
	return row{lost: loss.New(), came: came, out: out, in: in, acked: -1, best: -1}
}

// counts tells whether packets are sent at this level.
func (r *row) counts() bool {
	return r.keyed && !r.gone
}

// timer is when something is to be done at this level; false: never. No time behind the latest one ever comes, so that is as late as any.
func (r *row) timer() (int, bool) {
	at, ok := r.lost.Timer()
	return min(at, latest), ok && r.counts()
}

// beyond tells whether the latest time is now, and that of the timer would be behind it.
func (r *row) beyond(now int) bool {
	at, ok := r.lost.Timer()
	return ok && now == latest && at > latest
}

// expected is the number that a packet has that comes next, if none is lost.
func (r *row) expected() int {
	return min(r.best+1, maxNumber)
}

// had tells whether a packet came already.
func (r *row) had(number int) bool {
	return number < r.floor || r.came.Has(number)
}

// note keeps that a packet came.
func (r *row) note(number, now int) {
	r.came.Add(number, number)
	r.fresh = true
	if number > r.best {
		r.best, r.bestAt = number, now
	}
	if r.came.Count() < maxRanges {
		return
	}
	for from := range r.came.Up() {
		r.floor = max(r.floor, from)
		break
	}
}

// ack is the frame that tells what came, of the last ranges as many as go into so many bytes; false: not one does.
func (r *row) ack(now, most int) (frames.Frame, bool) {
	f := frames.Frame{Kind: frames.Ack, N: now - r.bestAt}
	for from, to := range r.came.Down() {
		if len(f.Acks) == api.MaxRanges {
			break
		}
		f.Acks = append(f.Acks, frames.Span{From: from, To: to})
	}
	for ; len(f.Acks) > 0; f.Acks = f.Acks[:len(f.Acks)/2] {
		if b, e := frames.Put(f); e == api.OK && len(b) <= most {
			return f, true
		}
	}
	return frames.Frame{}, false
}

// takeOut answers what a packet carried, which is known no longer; false: nothing that is to be sent again.
func (r *row) takeOut(number int) (record, bool) {
	i, ok := slices.BinarySearchFunc(r.sent, number, func(x record, n int) int { return cmp.Compare(x.number, n) })
	if !ok {
		return record{}, false
	}
	x := r.sent[i]
	r.sent = slices.Delete(r.sent, i, i+1)
	return x, true
}
