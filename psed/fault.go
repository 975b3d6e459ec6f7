package psed

// fault is what the reader of a text gives up with, by panic; a call's face
// tells it as an error.
type fault struct {
	errno Errno
	place int
}

// stop is what the editor of a file gives up with, by panic: the run tells it
// beside the file's name, unless it is over.
type stop string

const (
	outOfFuel stop = "out of fuel"
	outOfRoom stop = "out of room"
	runIsOver stop = "the run is over"
)

// caught does the work and answers that by which it gave up; the zero value, if
// it came to its end. Another panic is a mistake of the program's own, and is
// not hidden.
func caught[F fault | stop](work func()) (given F) {
	defer func() {
		switch thrown := recover().(type) {
		case nil:
		case F:
			given = thrown
		default:
			panic(thrown)
		}
	}()
	work()
	return given
}
