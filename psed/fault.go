package psed

// fault is what the reader of a text gives up with, by panic; a call's face
// tells it as an error.
type fault struct {
	errno Errno
	place int
}

// shortage is what the editor of a file gives up with, by panic: the run tells
// it beside the file's name.
type shortage string

const (
	outOfFuel shortage = "out of fuel"
	outOfRoom shortage = "out of room"
)

// caught does the work and answers that by which it gave up; the zero value, if
// it came to its end. Another panic is a mistake of the program's own, and is
// not hidden.
func caught[F fault | shortage](work func()) (given F) {
	defer func() {
		switch thrown := recover().(type) {
		case nil:
		case F:
			given = thrown
		default:
			panic(thrown)
		}
	}()
	work()
	return given
}
