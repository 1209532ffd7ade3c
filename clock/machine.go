package clock

import "lampbox/api"

// machine has for each button the state to which it leads from each state.
type machine struct {
	states, buttons int
	leads           [api.MaxButtons][api.MaxStates]int
}

// readMachine reads a machine, and reports whether the lists are one.
func readMachine(lists [][]int) (machine, bool) {
	if len(lists) < 1 || len(lists) > api.MaxButtons {
		return machine{}, false
	}
	m := machine{states: len(lists[0]), buttons: len(lists)}
	if m.states < 1 || m.states > api.MaxStates {
		return machine{}, false
	}
	for button, list := range lists {
		if len(list) != m.states {
			return machine{}, false
		}
		for state, next := range list {
			if !m.isState(next) {
				return machine{}, false
			}
			m.leads[button][state] = next
		}
	}
	return m, true
}

func (m machine) isState(q int) bool {
	return q >= 0 && q < m.states
}

func (m machine) all() set {
	return first(m.states)
}

// readSet reads a set of states, and reports whether the list is one.
func (m machine) readSet(list []int) (set, bool) {
	var s set
	before := -1
	for _, state := range list {
		if state <= before || !m.isState(state) {
			return 0, false
		}
		s = s.with(state)
		before = state
	}
	return s, true
}

func (m machine) isWord(word string) bool {
	if len(word) > api.MaxWord {
		return false
	}
	for i := range len(word) {
		if word[i] < 'a' || word[i] >= 'a'+byte(m.buttons) {
			return false
		}
	}
	return true
}

// press returns the image of a set under one button.
func (m machine) press(s set, button int) set {
	var image set
	for rest := s; rest != 0; rest &= rest - 1 {
		image = image.with(m.leads[button][rest.smallest()])
	}
	return image
}

// image returns the image of a set under a word.
func (m machine) image(s set, word string) set {
	for i := range len(word) {
		s = m.press(s, int(word[i]-'a'))
	}
	return s
}
