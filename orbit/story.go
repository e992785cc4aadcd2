package orbit

import "slices"

// story is the generations of a pattern from 0 on, up to the one that is an
// earlier one moved, and how it is that.
type story struct {
	generations []pattern
	cycle       Cycle
}

// readStory gives up at all that is wrong with the rule and the text first.
func readStory(rule, text string) story {
	l, first := readBoth(rule, text)
	return l.follow(first)
}

// follow gives up if the pattern does not come back in time.
func (l law) follow(first pattern) story {
	var s story
	for _, now := range l.generations(first) {
		if s.add(now) {
			return s
		}
	}
	giveUp(ErrSteps, 0)
	return story{}
}

// add tells whether the generation ends the story. No two earlier ones can be
// the one that it is moved from: the later of them would have ended it.
func (s *story) add(now pattern) bool {
	past := s.generations
	s.generations = append(past, now)
	for from, earlier := range past {
		if by, found := earlier.moveTo(now); found {
			s.cycle = Cycle{From: from, Period: len(past) - from, DX: by[0], DY: by[1]}
			return true
		}
	}
	return false
}

// at is a generation that is not ahead of From. No pattern moves by more than
// one cell in a generation, so the numbers stay far from those that no int holds.
func (s story) at(n int) pattern {
	behind := n - s.cycle.From
	rounds, rest := behind/s.cycle.Period, behind%s.cycle.Period
	by := cell{rounds * s.cycle.DX, rounds * s.cycle.DY}
	return slices.Collect(s.generations[s.cycle.From+rest].moved(by))
}
