package serial

import (
	"slices"

	"rhyne/api"
	"rhyne/zone"
)

// History is the last version of a zone, and the last steps that led to it.
type History struct {
	most  int
	last  *zone.Zone
	steps []kept // each from the version that the one ahead leads to
}

// kept is a step, and the serial of the version that it is from.
type kept struct {
	serial int
	step   Step
}

// New answers a history of one version, that keeps so many steps.
func New(z *zone.Zone, most int) (*History, api.Errno) {
	if z == nil || !within(most, maxMost) {
		return nil, api.ErrArg
	}
	return &History{most: most, last: z}, api.OK
}

// Add makes a version the last one.
func (h *History) Add(z *zone.Zone) api.Errno {
	if h == nil {
		return api.ErrArg
	}
	s, e := Diff(h.last, z)
	if e != api.OK {
		return e
	}
	h.steps = append(h.steps, kept{h.last.Serial(), s})
	h.steps = slices.Delete(h.steps, 0, max(0, len(h.steps)-h.most))
	h.last = z
	return api.OK
}

// Last answers the last version.
func (h *History) Last() *zone.Zone {
	if h == nil {
		return nil
	}
	return h.last
}

// Since answers the steps from a serial on; false: they aren't known.
func (h *History) Since(n int) ([]Step, bool) {
	if h == nil || h.last == nil {
		return nil, false
	}
	if n == h.last.Serial() {
		return nil, true
	}
	// Serials go round: of two steps from one serial the later one counts.
	for i, k := range slices.Backward(h.steps) {
		if k.serial == n {
			return stepsOf(h.steps[i:]), true
		}
	}
	return nil, false
}

// stepsOf are kept steps, in new memory.
func stepsOf(l []kept) []Step {
	var steps []Step
	for _, k := range l {
		s := k.step
		s.Gone, s.Came = slices.Clone(s.Gone), slices.Clone(s.Came)
		steps = append(steps, s)
	}
	return steps
}
