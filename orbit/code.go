package orbit

// code is the least plain text of all that the pattern is as long as it goes
// round, wherever it lies and however it is turned.
func (s story) code() string {
	from, least := s.cycle.From, ""
	for _, now := range s.generations[from : from+s.cycle.Period] {
		for turned := range now.turned() {
			text := plainText(turned.atOrigin())
			if least == "" || text < least {
				least = text
			}
		}
	}
	return least
}
