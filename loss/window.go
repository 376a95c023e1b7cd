package loss

import "slices"

// Sizes of windows.
const (
	beginWindow = 12000
	leastWindow = 2400
	mostWindow  = 1 << 30 // one above it grows no more
	growth      = 1200    // by which one above the mark grows, while it is filled once
	beginMark   = 1 << 40 // above all windows
)

// window is how many bytes may be on their way.
type window struct {
	size  int
	mark  int // from which on it grows slowly
	since int // when it was cut last, -1 ahead of that
}

// firstWindow is a window that never was cut.
func firstWindow() window {
	return window{size: beginWindow, mark: beginMark, since: -1}
}

// grow makes the window greater for packets that came, but not for those that went ahead of its last cut: they tell nothing of the road since.
func (w *window) grow(came []packet) {
	for _, p := range came {
		switch {
		case !p.asks || p.at <= w.since || w.size > mostWindow:
		case w.size < w.mark:
			w.size += p.size
		default:
			w.size += growth * p.size / w.size
		}
	}
}

// cut makes the window less for packets that were lost, once for all that went ahead of the last cut.
func (w *window) cut(gone []packet, now int) {
	for _, p := range slices.Backward(gone) {
		if !p.asks {
			continue
		}
		if p.at > w.since {
			w.since = now
			w.mark = w.size / 2
			w.size = max(w.mark, leastWindow)
		}
		return
	}
}
