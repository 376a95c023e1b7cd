package farm

// Head is the nodes of which the first datagram on its way is from one and for the other, and its bytes; -1: there is none.
func (f *Farm) Head() (int, int, []byte) {
	if len(f.way) == 0 {
		return -1, -1, nil
	}
	d := f.way[0]
	return d.from, d.to, d.bytes
}

// Guests is how many connections a server has that others made to it.
func (f *Farm) Guests(server int) int {
	return len(f.actors()[server].base().guests)
}

// Asked is how many questions the stub's connections have, the forwarder waits for, and the secondary's connection has.
func (f *Farm) Asked() int {
	n := len(f.forwarder.queries)
	for _, x := range f.actors() {
		for _, l := range x.base().lines {
			n += len(l.asked)
		}
	}
	return n
}
