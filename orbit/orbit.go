// Package orbit: what becomes of patterns of cells: see DOC.md.
package orbit

// Errno is what a call answers: OK or the reason for a refusal.
type Errno int

const (
	OK       Errno = 0
	ErrLong  Errno = 1 // a text above its bound
	ErrForm  Errno = 2 // no pattern
	ErrRule  Errno = 3 // no rule
	ErrFar   Errno = 4 // a cell too far out
	ErrCells Errno = 5 // too many cells
	ErrRange Errno = 6 // a number out of its range
	ErrSteps Errno = 7 // a pattern that does not come back in time
)

const (
	maxText  = 1500                // bytes of a pattern's text
	maxRule  = 24                  // bytes of a rule
	maxRun   = 9999                // what one run counts
	maxCoord = 2000000000000000000 // how far out a cell may live
	maxCells = 100                 // cells of a pattern
	maxSteps = 200                 // generations that are looked at
	maxAfter = 1000000000000000000 // generations that may be asked for
)

// Cycle tells how a pattern comes back.
type Cycle struct{ From, Period, DX, DY int }

// Rule tells whether a text is a rule (P3).
func Rule(rule string) (Errno, int) {
	return attempt(func() { readRule(rule) })
}

// Print writes a pattern in its plain form (P4).
func Print(text string) (string, Errno, int) {
	plain := ""
	errno, at := attempt(func() { plain = plainText(readPattern(text)) })
	return plain, errno, at
}

// Step tells what a pattern is after n generations (P5).
func Step(rule string, text string, n int) (string, Errno, int) {
	plain := ""
	errno, at := attempt(func() {
		l, first := readBoth(rule, text)
		plain = plainText(l.after(first, n))
	})
	return plain, errno, at
}

// Orbit tells how a pattern comes back (P6, P7).
func Orbit(rule string, text string) (Cycle, Errno, int) {
	cycle := Cycle{}
	errno, at := attempt(func() { cycle = readStory(rule, text).cycle })
	return cycle, errno, at
}

// Parts takes a pattern that has come back apart into what lives side by side
// (P8, P9).
func Parts(rule string, text string) ([]string, Errno, int) {
	var texts []string
	errno, at := attempt(func() {
		for _, part := range readStory(rule, text).parts() {
			texts = append(texts, plainText(part))
		}
	})
	return texts, errno, at
}

// Code names a pattern that comes back, wherever it lies, however it is turned
// and whichever of its phases it is in (P10, P11).
func Code(rule string, text string) (string, Errno, int) {
	code := ""
	errno, at := attempt(func() { code = readStory(rule, text).code() })
	return code, errno, at
}
