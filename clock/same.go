package clock

import "lampbox/api"

// renaming gives states of a machine the names of states of another one with as many states and buttons.
type renaming struct {
	named, taken set
	names        [api.MaxStates]int
}

// isSame reports whether the states can be renamed so that the other machine results.
func (m machine) isSame(other machine) bool {
	if m.states != other.states || m.buttons != other.buttons {
		return false
	}
	return m.canComplete(other, renaming{})
}

// canComplete reports whether names for the states without one are left that fit.
func (m machine) canComplete(other machine, r renaming) bool {
	state := (^r.named).smallest()
	if state == m.states {
		return true
	}
	for name := range m.states {
		if next, ok := m.withName(other, r, state, name); ok && m.canComplete(other, next) {
			return true
		}
	}
	return false
}

// withName names a state, and all those that its name determines: what buttons lead to, from it, and further on.
// It reports whether the names fit.
func (m machine) withName(other machine, r renaming, state, name int) (renaming, bool) {
	if r.named.has(state) || r.taken.has(name) {
		return r, r.named.has(state) && r.names[state] == name
	}
	r.named, r.taken = r.named.with(state), r.taken.with(name)
	r.names[state] = name
	for button := range m.buttons {
		next, ok := m.withName(other, r, m.leads[button][state], other.leads[button][name])
		if !ok {
			return renaming{}, false
		}
		r = next
	}
	return r, true
}
