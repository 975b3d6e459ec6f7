package psed

import "strings"

// How much a command ends.
const (
	endsNothing = iota
	endsCycle
	endsRun
)

// editor edits a file.
type editor struct {
	outlet
	tasks   []task
	quiet   bool
	fuel    int
	lines   []string
	number  int // of the lines that have been read
	pattern string
	held    string
	later   []string // the texts of a that are not put out yet
	changed bool     // by an s, and no t has gone on since
	at      int      // the task that is come to next
	again   bool     // the next cycle has its pattern already
	end     int      // what the last command ended
	status  int
}

// task is a command as the editor of one file comes to it: what is found out
// about a text, and where a range began, is that file's own.
type task struct {
	*command
	asked  []*matcher // of each address, if that is an expression
	finder *matcher   // of s
	begun  int        // the line at which the range began; 0, if none is begun
}

func newEditor(job Job, commands []command, p *passage) *editor {
	e := &editor{outlet: p.outlet, quiet: job.Quiet, fuel: job.Fuel, lines: linesOf(p.Data)}
	for i := range commands {
		e.tasks = append(e.tasks, newTask(&commands[i]))
	}
	return e
}

func newTask(c *command) task {
	t := task{command: c}
	for _, a := range c.addresses {
		t.asked = append(t.asked, newMatcher(a.expr))
	}
	if c.change != nil {
		t.finder = newMatcher(c.change.expr)
	}
	return t
}

// linesOf answers the pieces that newlines end, and a last one without, if it
// is not empty.
func linesOf(data string) []string {
	lines := strings.Split(data, "\n")
	if last := len(lines) - 1; lines[last] == "" {
		lines = lines[:last]
	}
	return lines
}

// edit makes one cycle behind the other, and gives up if fuel is spent, room is
// short or the run is over.
func (e *editor) edit() {
	for e.end != endsRun && (e.again || e.hasNext()) {
		e.cycle()
	}
}

func (e *editor) cycle() {
	if !e.again {
		e.pattern = e.read()
	}
	e.again = false
	e.end = endsNothing
	for e.at = 0; e.end == endsNothing && e.at < len(e.tasks); {
		e.comeTo(&e.tasks[e.at])
	}
	if e.end == endsNothing {
		e.finish()
	}
}

// comeTo makes a task, if the line belongs to it.
func (e *editor) comeTo(t *task) {
	if e.isOver() {
		panic(runIsOver)
	}
	if e.fuel == 0 {
		panic(outOfFuel)
	}
	e.fuel--
	e.at++
	if e.belongs(t) {
		doing[t.letter](e, t)
	} else if t.letter == '{' {
		e.goBehind(t)
	}
	if len(e.pattern) > maxSpace || len(e.held) > maxSpace {
		panic(outOfRoom)
	}
}

// goBehind goes on behind the command that the task names.
func (e *editor) goBehind(t *task) {
	e.at = t.target + 1
}

func (e *editor) hasNext() bool {
	return e.number < len(e.lines)
}

// read answers the next line.
func (e *editor) read() string {
	e.number++
	e.changed = false
	return e.lines[e.number-1]
}

// finish puts out what a cycle puts out at its end.
func (e *editor) finish() {
	e.putPattern()
	e.putLater()
}

func (e *editor) putPattern() {
	if !e.quiet {
		e.putLine(e.pattern)
	}
}

func (e *editor) putLater() {
	for _, text := range e.later {
		e.putLine(text)
	}
	e.later = nil
}

func (e *editor) putLine(text string) {
	e.put(theOutput, text+"\n")
}

func (e *editor) belongs(t *task) bool {
	return e.isOfLines(t) != t.not
}

// isOfLines tells whether the line is one of those that the addresses tell.
func (e *editor) isOfLines(t *task) bool {
	switch len(t.addresses) {
	case 0:
		return true
	case 1:
		return e.isAt(t, 0)
	default:
		return e.isInRange(t)
	}
}

// isAt tells whether the line belongs to one of the task's addresses.
func (e *editor) isAt(t *task, which int) bool {
	switch a := t.addresses[which]; {
	case a.expr != nil:
		return t.asked[which].isIn(e.pattern)
	case a.line > 0:
		return a.line == e.number
	default:
		return !e.hasNext()
	}
}

func (e *editor) isInRange(t *task) bool {
	if t.begun == 0 {
		return e.beginsRange(t)
	}
	if e.number > t.begun && e.isAt(t, 1) {
		t.begun = 0
	}
	return true
}

// beginsRange tells whether a range begins at the line, and keeps that, unless
// the range is that line alone.
func (e *editor) beginsRange(t *task) bool {
	if !e.isAt(t, 0) {
		return false
	}
	if last := t.addresses[1]; last.line == 0 || last.line > e.number {
		t.begun = e.number
	}
	return true
}
