package farm

import (
	"slices"

	"rhyne/api"
	"rhyne/conn"
	"rhyne/doq"
)

// line is a node's own way to a server: a connection, made anew when it must be, and what is asked there.
type line struct {
	link
	asked []*asked
}

// wish is something that is asked for.
type wish interface {
	waits() bool   // is an answer waited for?
	ask() []byte   // the question, for a new stream
	hear(s string) // a message came on it
	end(code int)  // no more comes on it
}

// single is a question that one message answers: what of a wish for it is always so.
type single struct {
	q api.Question
}

// ask is the question as it stands on a stream.
func (x *single) ask() []byte {
	b, _ := doq.Ask(x.q, nil)
	return b
}

// end changes nothing: what has no answer then is asked again.
func (x *single) end(int) {}

// asked is a wish, and its stream, if it has one.
type asked struct {
	wish   wish
	on     bool
	id     int
	reader *doq.Reader
}

// add asks for something more.
func (l *line) add(w wish) {
	l.asked = append(l.asked, &asked{wish: w})
}

// waits tells whether an answer is waited for.
func (l *line) waits() bool {
	return slices.ContainsFunc(l.asked, (*asked).waits)
}

// waits is the wish's.
func (x *asked) waits() bool {
	return x.wish.waits()
}

// listen hears all that came.
func (l *line) listen() {
	for _, x := range l.asked {
		if x.on {
			l.hear(x)
		}
	}
	l.asked = slices.DeleteFunc(l.asked, func(x *asked) bool { return !x.on && !x.waits() })
}

// hear takes what came on a stream; to its end, though nobody wait for it any more: else the other streams would lack the room.
func (l *line) hear(x *asked) {
	s, end, e := l.c.Read(x.id, readSize)
	if e != api.OK {
		return
	}
	if x.waits() {
		x.take(s)
	}
	if !end {
		return
	}
	x.on = false
	if x.waits() {
		x.wish.end(x.reader.End())
	}
}

// take takes more bytes, as long as an answer is waited for.
func (x *asked) take(s string) {
	x.reader.Feed(s)
	for x.waits() {
		s, ok := x.reader.Next()
		if !ok {
			return
		}
		x.wish.hear(s)
	}
}

// tend sees to it that there is a connection, if one is needed, and that all is asked there.
func (l *line) tend() {
	if l.c != nil && l.broken() {
		l.hangUp()
	}
	if l.c == nil && l.waits() {
		l.dial()
	}
	if l.c.Ready() {
		l.askAll()
	}
}

// broken tells whether the connection is of no use any more.
func (l *line) broken() bool {
	if l.over() || l.late() {
		return true
	}
	return l.waits() && (l.silence() >= patience || l.clogged())
}

// clogged tells whether all streams are taken by answers that nobody waits for any more.
func (l *line) clogged() bool {
	count := 0
	for _, x := range l.asked {
		if !x.on {
			continue
		}
		if x.waits() {
			return false
		}
		count++
	}
	return count >= streams
}

// dial makes a new connection.
func (l *line) dial() {
	by := l.farm.config()
	by.Shake.Own = l.farm.public[l.peer]
	c, e := conn.Dial(by, string(l.farm.random.bytes(api.MaxId)), 0)
	if e == api.OK {
		l.start(c, by.Name)
	}
}

// hangUp ends the connection, and tells so.
func (l *line) hangUp() {
	l.c.Close(conn.None)
	l.send()
	l.drop()
}

// drop forgets the connection; what waits is to be asked again.
func (l *line) drop() {
	l.c = nil
	for _, x := range l.asked {
		x.on = false
	}
}

// askAll asks what waits and isn't asked yet, as far as streams may be opened.
func (l *line) askAll() {
	for _, x := range l.asked {
		if x.on || !x.waits() {
			continue
		}
		id, e := l.c.Open()
		if e != api.OK {
			return
		}
		x.on, x.id, x.reader = true, id, &doq.Reader{}
		l.c.Write(id, x.wish.ask())
		l.c.Finish(id)
	}
}

// alarms are the times at which something is to be done about the connection, if nothing comes.
func (l *line) alarms() []int {
	if l.c == nil {
		return nil
	}
	all := l.link.alarms()
	if !l.c.Ready() {
		all = append(all, l.begun+patience)
	}
	if l.waits() {
		all = append(all, l.heard+patience)
	}
	return all
}
