package psed

// fault is what a part deep inside gives up with, by panic; a call's face
// tells it as an error.
type fault struct {
	errno Errno
	place int
}

// caught does the work and answers the fault by which it gave up; the zero
// fault, if it came to its end. Another panic is a mistake of the program's
// own, and is not hidden.
func caught(work func()) (given fault) {
	defer func() {
		switch thrown := recover().(type) {
		case nil:
		case fault:
			given = thrown
		default:
			panic(thrown)
		}
	}()
	work()
	return fault{}
}
