package orbit

// law is what a rule says: which numbers of living neighbours make a cell
// live, and which keep it alive.
type law struct{ born, kept [9]bool }

func (l law) lives(before bool, neighbours int) bool {
	if before {
		return l.kept[neighbours]
	}
	return l.born[neighbours]
}

// readRule gives up if the text is no rule.
func readRule(text string) law {
	if len(text) > maxRule {
		giveUp(ErrLong, 0)
	}
	var l law
	r := reader{text: text, wrong: ErrRule}
	r.expect('B')
	l.born = r.takeRising('1')
	r.expect('/')
	r.expect('S')
	l.kept = r.takeRising('0')
	r.expectEnd()
	return l
}

// takeRising goes past digits up to 8, each above the one ahead of it.
func (r *reader) takeRising(least byte) [9]bool {
	var found [9]bool
	for least <= r.peek() && r.peek() <= '8' {
		found[r.peek()-'0'] = true
		least = r.peek() + 1
		r.at++
	}
	return found
}
