package farm

import (
	"slices"

	"rhyne/api"
	"rhyne/doq"
	"rhyne/serial"
)

// partSize is how many records a part has of a zone that is handed over.
const partSize = 50

// host answers what guests ask.
type host interface {
	answer(g *guest, id int, s string)
}

// guest is a connection that another node made.
type guest struct {
	link
	first  string // by which it was called first
	asking []*incoming
}

// incoming is a stream on which a question comes.
type incoming struct {
	id       int
	reader   doq.Reader
	answered bool
}

// useless tells whether the other node doesn't talk there any more: it is over, didn't come to be ready, or a later one did.
func (g *guest) useless(later []*guest) bool {
	if g.over() || g.late() {
		return true
	}
	return slices.ContainsFunc(later, func(other *guest) bool { return other.peer == g.peer && other.c.Ready() })
}

// listen hears all that came, and lets the host answer each question.
func (g *guest) listen(h host) {
	for id, ok := g.c.Next(); ok; id, ok = g.c.Next() {
		g.asking = append(g.asking, &incoming{id: id})
	}
	g.asking = slices.DeleteFunc(g.asking, func(x *incoming) bool { return g.hear(x, h) })
}

// hear takes what came on a stream; true: no more comes. Whoever asks nothing on it does wrong.
func (g *guest) hear(x *incoming, h host) bool {
	s, end, e := g.c.Read(x.id, readSize)
	if e != api.OK {
		return true
	}
	if !x.answered {
		x.reader.Feed(s)
		if s, ok := x.reader.Next(); ok {
			x.answered = true
			h.answer(g, x.id, s)
		}
	}
	if end && !x.answered {
		g.c.Close(doq.Protocol)
	}
	return end
}

// say answers on a stream, if that is still there; false: it is more than a stream takes.
func (g *guest) say(id int, b []byte) bool {
	if g.c.Write(id, b) == api.ErrFull {
		return false
	}
	g.c.Finish(id)
	return true
}

// serve answers a question of a history's last versions; where that is more than a stream takes, that it failed.
func (g *guest) serve(id int, s string, h *serial.History) {
	b, code := doq.Serve(h, s, partSize)
	if code != doq.NoError {
		g.c.Close(code)
		return
	}
	if !g.say(id, b) && h != nil {
		g.serve(id, s, nil)
	}
}
