// Package psed: a stream editor over many files at once: see DOC.md.
package psed

// Errno is what a call answers: OK or the reason for a refusal.
type Errno int

const (
	OK        Errno = 0
	ErrLong   Errno = 1 // a text above its bound
	ErrExpr   Errno = 2 // no expression
	ErrScript Errno = 3 // no script
	ErrLabel  Errno = 4 // a label that is there twice, or not at all
	ErrRange  Errno = 5 // a number out of its range
)

// The limits, in bytes.
const (
	maxExpr = 60  // of an expression
	maxLine = 200 // of a text that Match is given
)

// File is a file to be edited; Bad: it cannot be read.
type File struct {
	Name string
	Data string
	Bad  bool
}

// Job is a run: the script, the files, and how they are worked on.
type Job struct {
	Script                string
	Quiet                 bool
	Workers, Buffer, Fuel int
	Files                 []File
}

// Written is what a w wrote to a name.
type Written struct{ Name, Data string }

// Result is what a run did.
type Result struct {
	Out    string
	Wrote  []Written
	Told   []string
	Status int
}

// Match answers an expression's best match at the lowest place (P3).
func Match(expr string, text string, at int) ([]int, Errno, int) {
	if len(expr) > maxExpr || len(text) > maxLine {
		return nil, ErrLong, 0
	}
	var x *expression
	if given := caught(func() { x = readExpr(expr) }); given.errno != OK {
		return nil, given.errno, given.place
	}
	if at < 0 || at > len(text) {
		return nil, ErrRange, 0
	}
	return newMatcher(x).from(text, at), OK, 0
}

// Check tells whether a text is a script (P4).
func Check(script string) (Errno, int) { return OK, 0 }

// Print writes a script in its plain form (P5).
func Print(script string) (string, Errno, int) { return "", OK, 0 }

// Run edits the files (P6 to P12).
func Run(job Job) (Result, Errno, int) { return Result{}, OK, 0 }
