package orbit

// reader goes through a text byte by byte.
type reader struct {
	text  string
	at    int
	wrong Errno // what a byte that cannot stand there means in this text
}

// peek answers 0 at the end. No text may hold that byte, so the end of a text
// and a wrong byte need no telling apart: the place is r.at for both.
func (r *reader) peek() byte {
	if r.at == len(r.text) {
		return 0
	}
	return r.text[r.at]
}

func (r *reader) refuse() { giveUp(r.wrong, r.at) }

// take goes past a byte if it stands there.
func (r *reader) take(b byte) bool {
	if r.peek() != b {
		return false
	}
	r.at++
	return true
}

func (r *reader) expect(b byte) {
	if !r.take(b) {
		r.refuse()
	}
}

func (r *reader) expectEnd() {
	if r.at < len(r.text) {
		r.refuse()
	}
}

// takeBlanks tells whether there were any.
func (r *reader) takeBlanks() bool {
	start := r.at
	for r.take(' ') || r.take('\n') {
	}
	return r.at > start
}

// takeDigits goes past all the digits that stand there.
func (r *reader) takeDigits() string {
	start := r.at
	for isDigit(r.peek()) {
		r.at++
	}
	return r.text[start:r.at]
}

func isDigit(b byte) bool { return '0' <= b && b <= '9' }

// value is right for up to 19 digits: they may pass an int, but no uint64.
func value(digits string) uint64 {
	n := uint64(0)
	for i := range len(digits) {
		n = n*10 + uint64(digits[i]-'0')
	}
	return n
}
