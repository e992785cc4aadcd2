package orbit

// refusal is what the readers panic with, so that no level between the byte
// that is wrong and the call has to hand it on.
type refusal struct {
	errno Errno
	at    int
}

func giveUp(errno Errno, at int) { panic(refusal{errno, at}) }

// attempt does a call's work and tells why it was given up, if it was. Other
// panics are faults of the program and go on: to answer OK would hide them.
func attempt(work func()) (errno Errno, at int) {
	defer func() {
		switch caught := recover().(type) {
		case nil:
		case refusal:
			errno, at = caught.errno, caught.at
		default:
			panic(caught)
		}
	}()
	work()
	return OK, 0
}
