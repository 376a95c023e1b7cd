package shake

import (
	"slices"

	"rhyne/api"
	"rhyne/curve"
	"rhyne/gcm"
	"rhyne/hkdf"
	"rhyne/sha"
)

// nonceSize is how many bytes of a ticket stand ahead of what is sealed.
const nonceSize = 12

// agree makes the secrets of level 1, by the words up to the answer, of a ticket's secret, if one is taken, and of what both keys make.
func (m *Machine) agree(resumed string, shared [curve.Size]byte) {
	m.schedule = hkdf.New()
	m.schedule.Mix([]byte(resumed))
	m.schedule.Mix(shared[:])
	m.secrets[Handshake] = pair{m.derived("c hs traffic"), m.derived("s hs traffic")}
	m.schedule.Mix(nil)
}

// open makes the secrets of level 2, by the words up to the server's seal.
func (m *Machine) open() {
	m.secrets[App] = pair{m.derived("c ap traffic"), m.derived("s ap traffic")}
}

// settle makes the next talk's secret, by the words up to the client's seal: nothing else is made of them from then on.
func (m *Machine) settle() {
	m.later = m.derived("res master")
	m.words, m.schedule = nil, nil
	m.done, m.known = true, true
}

// derived is a secret of the words so far, for a use whose name is short enough for any.
func (m *Machine) derived(use string) string {
	b, _ := m.schedule.Derive(use, m.words)
	return string(b)
}

// proof is what just those can make who have the key, or show its public one and have the other end's.
func (m *Machine) proof(key, public [curve.Size]byte) []byte {
	secret := curve.Times(key, public)
	return m.sealed(secret[:])
}

// seal is what just those can make who have a secret of level 1.
func (m *Machine) seal(secret string) []byte {
	f, _ := hkdf.Label([]byte(secret), "finished", nil, secretSize)
	return m.sealed(f)
}

// sealed is the Mac of the words so far.
func (m *Machine) sealed(key []byte) []byte {
	sum := sha.Sum(m.words)
	mac := sha.Mac(key, sum[:])
	return mac[:]
}

// newTicket is the next talk's secret, sealed so that the server need not keep it. The key and the nonce have their sizes, so nothing is refused.
func (m *Machine) newTicket() string {
	nonce := m.c.Random[:nonceSize]
	box, _ := gcm.New([]byte(m.c.Seal))
	b, _ := box.Seal(nonce, []byte(m.c.Protocol), []byte(m.later))
	return string(slices.Concat(nonce, b))
}

// openTicket is the secret that the server sealed into a ticket; false: it isn't one of its tickets.
func (m *Machine) openTicket(s string) (string, bool) {
	if len(s) < nonceSize {
		return "", false
	}
	box, _ := gcm.New([]byte(m.c.Seal))
	b, e := box.Open([]byte(s[:nonceSize]), []byte(m.c.Protocol), []byte(s[nonceSize:]))
	if e != api.OK || len(b) != secretSize {
		return "", false
	}
	return string(b), true
}
