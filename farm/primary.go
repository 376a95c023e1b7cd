package farm

import "rhyne/serial"

// keptSteps is how many steps between its versions the primary keeps.
const keptSteps = 5

// primary is the node that has the zone.
type primary struct {
	node
	history *serial.History
}

// begin makes the primary ready.
func (p *primary) begin(f *Farm, h *serial.History) {
	p.node = newNode(f, Primary)
	p.history = h
	p.open(p)
}

// act answers what came.
func (p *primary) act() {
	p.listen()
	p.send()
}

// answer answers of the last versions.
func (p *primary) answer(g *guest, id int, s string) {
	g.serve(id, s, p.history)
}
