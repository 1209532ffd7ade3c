package clock

import "slices"

// step tells how a search has come to a set: from another one, by a button.
// No search meets the empty set, so only the set from which it begins has the zero step.
type step struct {
	before set
	button int
}

// search returns the first word under which the image of a set that is not empty is a goal, and this image.
// The sets are met in the order of the first words that lead to them, so the first goal that is met has the first word.
func (m machine) search(from set, isGoal func(set) bool) (string, set, bool) {
	if isGoal(from) {
		return "", from, true
	}
	steps := map[set]step{from: {}}
	met := []set{from}
	found := set(0)
search:
	for at := 0; at < len(met); at++ {
		for button := range m.buttons {
			next := m.press(met[at], button)
			if _, known := steps[next]; known {
				continue
			}
			steps[next] = step{met[at], button}
			if isGoal(next) {
				found = next
				break search
			}
			met = append(met, next)
		}
	}
	if found == 0 {
		return "", 0, false
	}
	return wordTo(found, steps), found, true
}

// wordTo returns the word by which a search has come to a set.
func wordTo(s set, steps map[set]step) string {
	var word []byte
	for last := steps[s]; last != (step{}); last = steps[last.before] {
		word = append(word, 'a'+byte(last.button))
	}
	slices.Reverse(word)
	return string(word)
}

// searchFewer returns the first word under which the image of a set has at most so many states, and this image.
func (m machine) searchFewer(from set, many int) (string, set, bool) {
	return m.search(from, func(s set) bool { return s.size() <= many })
}

// apart returns the lexicographically smallest two states that no word leads to the same one.
func (m machine) apart() []int {
	for p := range m.states {
		for q := p + 1; q < m.states; q++ {
			if _, _, ok := m.searchFewer(set(0).with(p).with(q), 1); !ok {
				return []int{p, q}
			}
		}
	}
	return nil
}

// rank returns the rank, and the first word that leads to so few states.
func (m machine) rank() (int, string) {
	for many := 1; many < m.states; many++ {
		if word, _, ok := m.searchFewer(m.all(), many); ok {
			return many, word
		}
	}
	return m.states, ""
}

// greedy returns the word of Greedy, and reports whether there is one.
// The first word that makes a set smaller is the first one that leads two of its states to the same one.
// If some two states cannot be led to the same one, no word resets, so some set on the way can not be made smaller.
func (m machine) greedy() (string, bool) {
	word := ""
	for s := m.all(); s.size() > 1; {
		more, smaller, ok := m.searchFewer(s, s.size()-1)
		if !ok {
			return "", false
		}
		word += more
		s = smaller
	}
	return word, true
}
