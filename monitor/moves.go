package monitor

import "retrace/api"

// firstPiece is how many positions are looked at first for a point that lies ahead.
const firstPiece = 256

// forward goes on to the first event that meets a point or is wanted.
func (m *Monitor) forward(_ api.Command, wants want) (api.Stop, api.Errno) {
	pointOf := m.lookout()
	return m.goOn(func(e api.Event, depth int) api.Stop {
		if n := pointOf(e); n != 0 {
			return api.Stop{Kind: api.StopPoint, Point: n}
		}
		if wants(e, depth) {
			return api.Stop{Kind: api.StopStep}
		}
		return api.Stop{}
	})
}

// goTo goes to a position, forward or back.
func (m *Monitor) goTo(c api.Command, _ want) (api.Stop, api.Errno) {
	if c.N <= m.engine.At() {
		return m.backTo(max(c.N, 0), api.StopGoto), api.OK
	}
	return m.goOn(func(api.Event, int) api.Stop {
		if m.engine.At() == c.N {
			return api.Stop{Kind: api.StopGoto}
		}
		return api.Stop{}
	})
}

// goOn goes forward, event by event, to the first one for which the function tells a stop (all of it but At), to the end, or as far as the budget leads.
func (m *Monitor) goOn(stopOf func(e api.Event, depth int) api.Stop) (api.Stop, api.Errno) {
	if m.over {
		return api.Stop{}, api.ErrOver
	}
	depth := len(m.engine.Frames())
	for left := m.budget; ; {
		event, done, errno := m.engine.Forward(left)
		if errno == api.ErrOver {
			m.over = true
			return m.stop(api.StopEnd), api.OK
		}
		if errno != api.OK {
			return m.stop(api.StopBudget), api.ErrBudget
		}
		left -= done
		depth += growth(event)
		if stop := stopOf(event, depth); stop.Kind != api.StopNone {
			stop.At = m.engine.At()
			return stop, api.OK
		}
	}
}

// backward goes to the last position ahead that is wanted, or to the beginning.
func (m *Monitor) backward(_ api.Command, wants want) (api.Stop, api.Errno) {
	ahead := m.ahead()
	if ahead < 0 {
		return api.Stop{}, api.ErrStart
	}
	depth := len(m.engine.Frames())
	for at := m.engine.At(); at > 0; at-- {
		event, _ := m.engine.Seen(at)
		if at <= ahead && wants(event, depth) {
			return m.backTo(at, api.StopStep), api.OK
		}
		depth -= growth(event)
	}
	return m.backTo(0, api.StopStart), api.OK
}

// backToPoint goes to the last position ahead that has a point, or to the beginning.
func (m *Monitor) backToPoint(api.Command, want) (api.Stop, api.Errno) {
	high := m.ahead()
	if high < 0 {
		return api.Stop{}, api.ErrStart
	}
	// Whether a condition holds can be asked only where the engine stands, and a way on costs less than a way back: so the run is gone through on and on in pieces, each twice as long as the one behind it.
	pointOf := m.lookout()
	for length := firstPiece; high > 0; length *= 2 {
		low := max(high-length, 0)
		if at, n := m.lastPoint(low, high, pointOf); n != 0 {
			stop := m.backTo(at, api.StopPoint)
			stop.Point = n
			return stop, api.OK
		}
		high = low
	}
	return m.backTo(0, api.StopStart), api.OK
}

// lastPoint tells the last position from the one behind low to high that has a point, and the point; 0, if none has one. The engine has moved then.
func (m *Monitor) lastPoint(low, high int, pointOf func(api.Event) int) (at, point int) {
	m.engine.Back(low)
	for m.engine.At() < high {
		event, _, errno := m.engine.Forward(api.MaxBudget)
		if errno != api.OK {
			break // never: the event came within so many instructions the first time
		}
		if n := pointOf(event); n != 0 {
			at, point = m.engine.At(), n
		}
	}
	return at, point
}

// ahead is the last position ahead of where the monitor stands, -1 if there is none.
func (m *Monitor) ahead() int {
	if m.over {
		return m.engine.At()
	}
	return m.engine.At() - 1
}

// backTo goes to a position that is not behind where the monitor stands.
func (m *Monitor) backTo(at int, kind api.StopKind) api.Stop {
	m.engine.Back(at)
	m.over = false
	return m.stop(kind)
}

// stop is one where the monitor stands.
func (m *Monitor) stop(kind api.StopKind) api.Stop {
	return api.Stop{Kind: kind, At: m.engine.At()}
}

// growth is how many frames an event brings: to count them so costs less than to tell them all at each event.
func growth(e api.Event) int {
	switch e.Kind {
	case api.EvCall:
		return 1
	case api.EvReturn, api.EvLeave:
		return -1
	}
	return 0
}
