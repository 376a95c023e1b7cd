package flow

import "rhyne/api"

// Purse is the bytes that the other end may send, and those that one may send oneself.
type Purse struct {
	window     int
	limit      int // how many may come
	came, used int
	allowed    int // how many may be sent
	sent       int
}

// NewPurse answers a purse of which so many bytes may come ahead of what is used up, and none may be sent yet.
func NewPurse(window int) (*Purse, api.Errno) {
	if window < 1 || window > api.MaxWindow {
		return nil, api.ErrArg
	}
	return &Purse{window: window, limit: window}, api.OK
}

// Take tells that so many bytes more came.
func (p *Purse) Take(n int) api.Errno {
	if !p.ready() || n < 0 {
		return api.ErrArg
	}
	if n > p.limit-p.came {
		return api.ErrFlow
	}
	p.came += n
	return api.OK
}

// Use tells that so many of those that came were used up.
func (p *Purse) Use(n int) api.Errno {
	if !p.ready() || n < 0 || n > p.came-p.used {
		return api.ErrArg
	}
	p.used += n
	return api.OK
}

// Grant answers how many bytes the other end may send in all; true: that is to be told.
func (p *Purse) Grant() (int, bool) {
	if !p.ready() {
		return 0, false
	}
	if p.limit-p.used >= p.window/2 {
		return p.limit, false
	}
	p.limit = p.used + p.window
	return p.limit, true
}

// Allow lets so many bytes be sent in all.
func (p *Purse) Allow(limit int) {
	if p.ready() {
		p.allowed = raised(p.allowed, limit)
	}
}

// Left answers how many bytes more may be sent.
func (p *Purse) Left() int {
	if p == nil {
		return 0
	}
	return p.allowed - p.sent
}

// Spend tells that so many bytes more are sent.
func (p *Purse) Spend(n int) api.Errno {
	if !p.ready() || n < 0 {
		return api.ErrArg
	}
	if n > p.Left() {
		return api.ErrFlow
	}
	p.sent += n
	return api.OK
}

// ready tells whether p was made by NewPurse.
func (p *Purse) ready() bool {
	return p != nil && p.window > 0
}
