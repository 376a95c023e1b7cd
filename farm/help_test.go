package farm_test

import (
	"math/rand"
	"reflect"
	"slices"
	"strconv"
	"strings"
	"testing"

	"rhyne/api"
	"rhyne/doq"
	"rhyne/farm"
	"rhyne/msg"
	"rhyne/serial"
	"rhyne/zone"
)

// short forms of the types, as the tests have many of them.
type (
	message  = msg.Message
	record   = api.Record
	question = api.Question
)

// number is a number in 4 bytes.
func number(n int) string { return string([]byte{byte(n >> 24), byte(n >> 16), byte(n >> 8), byte(n)}) }

// lackTime is how long one may keep it that something isn't there.
const lackTime = 900

// version is the records of a version with a serial.
func version(n int, l ...record) []record {
	soa := record{Name: "x.", Type: api.SOA, TTL: 60000, Data: "\x00\x00" + number(n) + strings.Repeat(number(lackTime), 4)}
	return append([]record{soa, {Name: "x.", Type: api.NS, TTL: 60000, Data: "\x00"}}, l...)
}

// a is an A.
func a(s string, ttl int, data string) record {
	return record{Name: s, Type: api.A, TTL: ttl, Data: data}
}

// asks is a question for an A.
func asks(s string) question { return question{Name: s, Type: api.A} }

// whole asks for the whole zone.
var whole = question{Name: "x.", Type: doq.Whole}

// great is so many records of so many bytes of data, all of them new with each version.
func great(n, count, size int) []record {
	var l []record
	for i := range count {
		s := number(n) + number(i) + strings.Repeat("\xaa", size)
		l = append(l, record{Name: "a" + strconv.Itoa(i%5) + ".x.", Type: 1000, TTL: 5000, Data: s[:size]})
	}
	return l
}

// make a farm of a version.
func newFarm(t testing.TB, seed int, l []record) *farm.Farm {
	t.Helper()
	f, e := farm.New(l, seed)
	if e != api.OK {
		t.Fatal("New", e)
	}
	return f
}

// build is the zone of a version.
func build(t testing.TB, l []record) *zone.Zone {
	t.Helper()
	z, e := zone.Build("x.", l)
	if e != api.OK {
		t.Fatal("Build", e)
	}
	return z
}

// update brings the next version.
func update(t testing.TB, f *farm.Farm, l []record) {
	t.Helper()
	if e := f.Update(l); e != api.OK {
		t.Fatal("Update", e)
	}
}

// ask asks, and is to be given a number.
func ask(t testing.TB, f *farm.Farm, server int, q question) int {
	t.Helper()
	n, e := f.Ask(server, q)
	if e != api.OK || n < 1 {
		t.Fatal("Ask", server, q, n, e)
	}
	return n
}

// state is what has become of a question.
func state(t testing.TB, f *farm.Farm, n int) int {
	t.Helper()
	m, s, e := f.Answer(n)
	if e != api.OK || s < farm.Waits || s > farm.GaveUp {
		t.Fatal("Answer", n, s, e)
	}
	if s != farm.Answered && !same(m, message{}) {
		t.Fatalf("Answer of %d: %d, %+v", n, s, m)
	}
	return s
}

// answer is a question's answer, which is to be there.
func answer(t testing.TB, f *farm.Farm, n int) message {
	t.Helper()
	m, s, e := f.Answer(n)
	if e != api.OK || s != farm.Answered {
		t.Fatal("Answer", n, s, e)
	}
	return m
}

// told is the answer to a question, as soon as it is there, within so many rounds.
func told(t testing.TB, f *farm.Farm, server int, q question, rounds int) message {
	t.Helper()
	n := ask(t, f, server, q)
	for range rounds {
		if state(t, f, n) != farm.Waits {
			break
		}
		f.Run(1)
	}
	return answer(t, f, n)
}

// same tells whether two messages are one; nil and empty lists are.
func same(m, n message) bool {
	equal := slices.Equal(m.Ask, n.Ask) && slices.Equal(m.Answers, n.Answers) && slices.Equal(m.Authority, n.Authority) && slices.Equal(m.Extra, n.Extra)
	m.Ask, m.Answers, m.Authority, m.Extra = nil, nil, nil, nil
	n.Ask, n.Answers, n.Authority, n.Extra = nil, nil, nil, nil
	return equal && reflect.DeepEqual(m, n)
}

// says is the first message with which a version answers, as layer 23 serves it in parts of 50 records; of no version: that it failed.
func says(t testing.TB, z *zone.Zone, q question) message {
	t.Helper()
	var h *serial.History
	if z != nil {
		var e api.Errno
		if h, e = serial.New(z, 5); e != api.OK {
			t.Fatal("New", e)
		}
	}
	asked, e := doq.Ask(q, nil)
	if e != api.OK {
		t.Fatal("Ask", q, e)
	}
	b, code := doq.Serve(h, string(asked[2:]), 50)
	r := &doq.Reader{}
	if code != 0 || r.Feed(string(b)) != api.OK {
		t.Fatal("Serve", code)
	}
	s, _ := r.Next()
	m, e := doq.Accept(q, s)
	if e != api.OK {
		t.Fatal("Accept", e)
	}
	return m
}

// only is an answer that has a code alone.
func only(q question, code int) message {
	return message{Answer: true, Wanted: true, Code: code, Ask: []question{q}}
}

// aged is a message whose records hold for so much less.
func aged(m message, by int) message {
	for _, l := range []*[]record{&m.Answers, &m.Authority, &m.Extra} {
		*l = slices.Clone(*l)
		for i := range *l {
			(*l)[i].TTL -= by
		}
	}
	return m
}

// road tells which datagrams are lost, by the nodes from and for which they are.
type road func(from, to int) bool

// free loses none.
func free(int, int) bool { return false }

// without loses those between two nodes.
func without(a, b int) road {
	return func(from, to int) bool { return from == a && to == b || from == b && to == a }
}

// step lets all come that is on its way now, but for what is lost.
func step(f *farm.Farm, lose road) {
	for range f.Way() {
		if from, to, _ := f.Head(); lose(from, to) {
			f.Deliver(1, 0)
		} else {
			f.Deliver(0, 0)
		}
	}
}

// go on: time goes on by so many ticks, some at one time, and what is on its way comes, but for what is lost.
func pass(f *farm.Farm, ticks, each int, lose road) {
	for end := f.Now() + ticks; f.Now() < end; {
		step(f, lose)
		f.Tick(min(each, end-f.Now()))
	}
	step(f, lose)
}

// oneOf draws one of a list.
func oneOf[T any](rnd *rand.Rand, l ...T) T { return l[rnd.Intn(len(l))] }
