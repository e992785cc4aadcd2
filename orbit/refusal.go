package orbit

// refusal is what a call's work panics with, so that no level between what is
// wrong (a byte, or a generation with too many cells) and the call has to hand
// it on.
type refusal struct {
	errno Errno
	at    int
}

func giveUp(errno Errno, at int) { panic(refusal{errno, at}) }

// attempt does a call's work and tells why it was given up, if it was. Other
// panics are faults of the program and go on: to answer OK would hide them.
func attempt(work func()) (errno Errno, at int) {
	defer func() {
		switch caught := recover().(type) {
		case nil:
		case refusal:
			errno, at = caught.errno, caught.at
		default:
			panic(caught)
		}
	}()
	work()
	return OK, 0
}
