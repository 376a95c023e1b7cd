package loss

// trip is how long a packet and its answer take.
type trip struct {
	sampled                   bool
	smooth, vary, least, last int
}

// firstTrip is what is taken for one ahead of the first sample.
func firstTrip() trip {
	return trip{smooth: 100, vary: 50}
}

// sample keeps how long a trip took; of that the other end says it put its answer off for a delay.
func (t *trip) sample(took, delay int) {
	t.last = took
	if !t.sampled {
		t.sampled, t.least, t.smooth, t.vary = true, took, took, took/2
		return
	}
	t.least = min(t.least, took)
	// A delay that would make the trip less than the least one can't be right.
	if took >= t.least+delay {
		took -= delay
	}
	t.vary = (3*t.vary + max(t.smooth-took, took-t.smooth)) / 4
	t.smooth = (7*t.smooth + took) / 8
}

// wait is after how long a packet is lost if one behind it came.
func (t trip) wait() int {
	return max(9*max(t.smooth, t.last)/8, 1)
}

// answer is after how long an answer should have come.
func (t trip) answer() int {
	return t.smooth + max(4*t.vary, 1) + answerTime
}
