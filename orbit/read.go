package orbit

import "slices"

const (
	numberDigits = 19
	countDigits  = 4
)

// readBoth gives up at the rule first, whatever the text is.
func readBoth(rule, text string) (law, pattern) {
	l := readRule(rule)
	return l, readPattern(text)
}

// readPattern gives up if the text is no pattern within the limits. The form
// of the whole text comes first: a wrong byte at its end goes ahead of a cell
// too far out at its beginning.
func readPattern(text string) pattern {
	if len(text) > maxText {
		giveUp(ErrLong, 0)
	}
	start, spans := readForm(text)
	if start.isFar() || slices.ContainsFunc(spans, span.isFar) {
		giveUp(ErrFar, 0)
	}
	if countCells(spans) > maxCells {
		giveUp(ErrCells, 0)
	}
	return cellsOf(spans)
}

// readForm answers the cell that the text begins at, and its living runs as
// spans: their cells may be millions.
func readForm(text string) (cell, []span) {
	r := reader{text: text, wrong: ErrForm}
	r.takeBlanks()
	x := r.readNumber()
	if !r.takeBlanks() {
		r.refuse()
	}
	start := cell{x, r.readNumber()}
	p := pen{start: start, at: start}
	r.readRuns(&p)
	r.takeBlanks()
	r.expectEnd()
	return start, p.spans
}

// readNumber brings what is too far out to the next number beyond the limit:
// it is refused there as well, and fits an int.
func (r *reader) readNumber() int {
	start := r.at
	negative := r.take('-')
	digits := r.takeDigits()
	if len(digits) == 0 || len(digits) > numberDigits {
		giveUp(r.wrong, start)
	}
	n := int(min(value(digits), maxCoord+1))
	if negative {
		return -n
	}
	return n
}

// readRuns goes through the runs and past the mark behind them.
func (r *reader) readRuns(p *pen) {
	for {
		r.takeBlanks()
		count := 1
		switch b := r.peek(); {
		case b == '!':
			r.at++
			return
		case isDigit(b):
			count = r.readCount()
			r.takeBlanks()
			fallthrough
		default:
			p.draw(count, r.readLetter())
		}
	}
}

func (r *reader) readCount() int {
	start := r.at
	digits := r.takeDigits()
	if digits[0] == '0' || len(digits) > countDigits {
		giveUp(r.wrong, start)
	}
	return int(value(digits))
}

func (r *reader) readLetter() byte {
	letter := r.peek()
	switch letter {
	case 'b', 'o', '$':
		r.at++
	default:
		r.refuse()
	}
	return letter
}

// pen goes over the plane as the runs say.
type pen struct {
	start, at cell
	spans     []span
}

func (p *pen) draw(count int, letter byte) {
	switch letter {
	case 'o':
		p.spans = append(p.spans, span{p.at, count})
		fallthrough
	case 'b':
		p.at[0] += count
	case '$':
		p.at = cell{p.start[0], p.at[1] + count}
	}
}

func countCells(spans []span) int {
	n := 0
	for _, s := range spans {
		n += s.length
	}
	return n
}

// cellsOf needs no sorting: runs go to the right and downwards alone.
func cellsOf(spans []span) pattern {
	var p pattern
	for _, s := range spans {
		for i := range s.length {
			p = append(p, cell{s.first[0] + i, s.first[1]})
		}
	}
	return p
}
