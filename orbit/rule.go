package orbit

// readRule gives up if the text is no rule.
func readRule(text string) {
	if len(text) > maxRule {
		giveUp(ErrLong, 0)
	}
	r := reader{text: text, wrong: ErrRule}
	r.expect('B')
	r.takeRising('1')
	r.expect('/')
	r.expect('S')
	r.takeRising('0')
	r.expectEnd()
}

// takeRising goes past digits up to 8, each above the one ahead of it.
func (r *reader) takeRising(least byte) {
	for least <= r.peek() && r.peek() <= '8' {
		least = r.peek() + 1
		r.at++
	}
}
