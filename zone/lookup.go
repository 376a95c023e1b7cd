package zone

import (
	"slices"
	"strings"

	"rhyne/api"
	"rhyne/msg"
	"rhyne/name"
)

// star is the part that stands for names that aren't there.
const star = "*."

// root is the name that has no part.
const root = "."

// Lookup answers a question.
func (z *Zone) Lookup(q api.Question) Reply {
	if z == nil || z.names == nil {
		return Reply{Code: msg.Failed}
	}
	if !name.Under(q.Name, z.origin) {
		return Reply{Code: msg.Refused}
	}
	s := &search{zone: z, kind: q.Type}
	for n, on := strings.Clone(q.Name), true; on; {
		n, on = s.step(n)
	}
	return s.reply
}

// search is a question that is being answered.
type search struct {
	zone  *Zone
	kind  int
	reply Reply
}

// step answers of one name; true: a CNAME leads on to another one.
func (s *search) step(n string) (string, bool) {
	if servers := s.zone.cut(n); len(servers) > 0 {
		s.refer(servers)
		return "", false
	}
	s.reply.Own = true
	l, ok := s.zone.recordsOf(n)
	if !ok {
		s.reply.Code = msg.NoName
		s.lacks()
		return "", false
	}
	if alias := ofType(l, api.CNAME); len(alias) > 0 && s.kind != api.CNAME {
		return s.follow(alias[0])
	}
	found := ofType(l, s.kind)
	if len(found) == 0 {
		s.lacks()
	}
	s.reply.Answers = append(s.reply.Answers, found...)
	return "", false
}

// refer names those who know what is asked.
func (s *search) refer(servers []api.Record) {
	s.reply.Own = len(s.reply.Answers) > 0
	s.reply.Authority = servers
	s.reply.Extra = s.zone.addresses(servers)
}

// lacks says by the SOA that something isn't there.
func (s *search) lacks() {
	s.reply.Authority = []api.Record{s.zone.lack}
}

// follow answers a CNAME; true: its target is to be looked for, too.
func (s *search) follow(alias api.Record) (string, bool) {
	s.reply.Answers = append(s.reply.Answers, alias)
	target, e := msg.Target(alias)
	on := e == api.OK && name.Under(target, s.zone.origin) && len(s.reply.Answers) < api.MaxHops
	return target, on
}

// cut are the NS records of the highest cut that a name is, or is below; none: there is no such cut.
func (z *Zone) cut(n string) []api.Record {
	var highest []api.Record
	for s := range z.upward(n) {
		if servers := ofType(z.names[s], api.NS); len(servers) > 0 && s != z.origin {
			highest = servers
		}
	}
	return highest
}

// addresses are the A and AAAA records of those whom NS records name.
func (z *Zone) addresses(servers []api.Record) []api.Record {
	var targets []string
	for _, r := range servers {
		if target, e := msg.Target(r); e == api.OK {
			targets = append(targets, target)
		}
	}
	var l []api.Record
	for _, r := range z.records {
		if (r.Type == api.A || r.Type == api.AAAA) && slices.Contains(targets, r.Name) {
			l = append(l, r)
		}
	}
	return l
}

// recordsOf are a name's records, or those of the star that stands for it. False: it isn't there, and no star stands for it.
func (z *Zone) recordsOf(n string) ([]api.Record, bool) {
	if l, ok := z.names[n]; ok {
		return l, true
	}
	l := slices.Clone(z.names[starBelow(z.nearest(n))])
	for i := range l {
		l[i].Name = n
	}
	return l, len(l) > 0
}

// nearest is the lowest name that is there of a name and those above it.
func (z *Zone) nearest(n string) string {
	for s := range z.upward(n) {
		if _, ok := z.names[s]; ok {
			return s
		}
	}
	return z.origin
}

// starBelow is the name of the star just below a name.
func starBelow(s string) string {
	if s == root {
		return star
	}
	return star + s
}
