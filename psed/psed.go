// Package psed: a stream editor over many files at once: see DOC.md.
package psed

// Errno is what a call answers: OK or the reason for a refusal.
type Errno int

const (
	OK        Errno = 0
	ErrLong   Errno = 1 // a text above its bound
	ErrExpr   Errno = 2 // no expression
	ErrScript Errno = 3 // no script
	ErrLabel  Errno = 4 // a label that is there twice, or not at all
	ErrRange  Errno = 5 // a number out of its range
)

// The limits.
const (
	maxScript  = 1000 // bytes of a script
	maxExpr    = 60   // bytes of an expression
	maxCmds    = 60   // commands of a script
	maxNest    = 6    // blocks within blocks
	maxLine    = 200  // bytes of a text that Match is given
	maxFiles   = 12
	maxData    = 1500 // bytes of a file
	maxName    = 20   // bytes of a file's name
	maxWorkers = 16
	maxBuffer  = 64
	maxFuel    = 5000
	maxSpace   = 300 // bytes of the pattern, and of what is held
)

// File is a file to be edited; Bad: it cannot be read.
type File struct {
	Name string
	Data string
	Bad  bool
}

// Job is a run: the script, the files, and how they are worked on.
type Job struct {
	Script                string
	Quiet                 bool
	Workers, Buffer, Fuel int
	Files                 []File
}

// Written is what a w wrote to a name.
type Written struct{ Name, Data string }

// Result is what a run did.
type Result struct {
	Out    string
	Wrote  []Written
	Told   []string
	Status int
}

// Match answers an expression's best match at the lowest place (P3).
func Match(expr string, text string, at int) ([]int, Errno, int) {
	if len(expr) > maxExpr || len(text) > maxLine {
		return nil, ErrLong, 0
	}
	var x *expression
	if given := caught[fault](func() { x = readExpr(expr) }); given.errno != OK {
		return nil, given.errno, given.place
	}
	if at < 0 || at > len(text) {
		return nil, ErrRange, 0
	}
	return newMatcher(x).from(text, at), OK, 0
}

// Check tells whether a text is a script (P4).
func Check(script string) (Errno, int) {
	_, given := commandsOf(script)
	return given.errno, given.place
}

// Print writes a script in its plain form (P5).
func Print(script string) (string, Errno, int) {
	commands, given := commandsOf(script)
	if given.errno != OK {
		return "", given.errno, given.place
	}
	return plainScript(commands), OK, 0
}

// commandsOf reads a script, or answers why it cannot be read.
func commandsOf(script string) (commands []command, given fault) {
	if len(script) > maxScript {
		return nil, fault{ErrLong, 0}
	}
	given = caught[fault](func() { commands = readScript(script) })
	return commands, given
}

// Run edits the files (P6 to P12).
func Run(job Job) (Result, Errno, int) {
	commands, given := commandsOf(job.Script)
	if given.errno == OK {
		given = overLimit(job)
	}
	if given.errno != OK {
		return Result{}, given.errno, given.place
	}
	all := newRecord(commands)
	newRun(job, commands).edit(all)
	return all.result(), OK, 0
}
