package psed

import "sync"

// output is a piece of what a file puts out, or writes to a name.
type output struct{ name, text string }

// outlet is a file's way out: it has room for some pieces, and holds the file
// back while none of them is taken.
type outlet struct {
	pieces chan output
	over   chan struct{} // closed when the run has ended
}

// put hands a piece over, and gives up if the run is over, as then nobody takes
// it.
func (o outlet) put(name, text string) {
	select {
	case o.pieces <- output{name, text}:
	case <-o.over:
		panic(runIsOver)
	}
}

// isOver tells whether the run is over: what is still edited then is not seen
// by anybody.
func (o outlet) isOver() bool {
	select {
	case <-o.over:
		return true
	default:
		return false
	}
}

// passage is a file on its way through the script. How that ended is known when
// its pieces are closed, and not earlier.
type passage struct {
	File
	outlet
	why     stop // for which its editor gave up; else empty
	endsRun bool
	status  int
}

// run is a job that is worked on.
type run struct {
	job      Job
	commands []command
	passages []passage
	over     chan struct{}
}

func newRun(job Job, commands []command) *run {
	r := &run{job: job, commands: commands, over: make(chan struct{})}
	for _, f := range job.Files {
		r.passages = append(r.passages, passage{File: f, outlet: outlet{make(chan output, job.Buffer), r.over}})
	}
	return r
}

// edit has the files edited at the same time, and all that they put out recorded
// in their order, up to the file at which the run ends. When it answers, nobody
// is at work.
func (r *run) edit(all *record) {
	workers := r.start()
	for i := range r.passages {
		if !all.take(&r.passages[i]) {
			break
		}
	}
	close(r.over)
	workers.Wait()
}

func (r *run) start() *sync.WaitGroup {
	var workers sync.WaitGroup
	for first := range r.job.Workers {
		workers.Go(func() { r.work(first) })
	}
	return &workers
}

// work edits the first file and, from there on, each Workers-th. The worker of
// the file that is taken is not held back at another one, as all its files ahead
// of that have been taken.
func (r *run) work(first int) {
	for i := first; i < len(r.passages); i += r.job.Workers {
		r.pass(&r.passages[i])
	}
}

// pass edits a file, unless it cannot be read, and tells by closing its pieces
// that it is done.
func (r *run) pass(p *passage) {
	defer close(p.pieces)
	if p.Bad || p.isOver() {
		return
	}
	e := newEditor(r.job, r.commands, p)
	p.why = caught[stop](e.edit)
	p.endsRun = p.why != "" || e.end == endsRun
	p.status = e.status
}
