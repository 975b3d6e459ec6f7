package psed

import (
	"slices"
	"strings"
)

// theOutput stands where else the name is of what is written to: no name is
// empty.
const theOutput = ""

// overLimit answers why a job is refused, of whatever script; the zero fault,
// if it is not.
func overLimit(job Job) fault {
	if len(job.Files) > maxFiles {
		return fault{ErrLong, maxFiles}
	}
	for i, f := range job.Files {
		if len(f.Data) > maxData || len(f.Name) > maxName {
			return fault{ErrLong, i}
		}
	}
	if !within(job.Workers, 1, maxWorkers) || !within(job.Buffer, 1, maxBuffer) || !within(job.Fuel, 0, maxFuel) {
		return fault{ErrRange, 0}
	}
	return fault{}
}

func within(number, least, most int) bool {
	return least <= number && number <= most
}

// run gathers what the files of a job put out, in their order.
type run struct {
	job      Job
	commands []command
	names    []string // theOutput, and the names that the script writes to, rising
	texts    []strings.Builder
	told     []string
	said     int // the status of a q or Q
	unread   bool
	short    bool
}

func newRun(job Job, commands []command) *run {
	names := []string{theOutput}
	for _, c := range commands {
		names = append(names, c.name)
	}
	slices.Sort(names)
	names = slices.Compact(names)
	return &run{job: job, commands: commands, names: names, texts: make([]strings.Builder, len(names))}
}

// edit has a file edited and tells whether the run goes on behind it.
func (r *run) edit(f File) bool {
	if f.Bad {
		r.tell(f, "cannot be read")
		r.unread = true
		return true
	}
	e := newEditor(r.job, r.commands, f.Data)
	e.put = r.put
	if why := caught[shortage](e.edit); why != "" {
		r.tell(f, string(why))
		r.short = true
		return false
	}
	r.said = e.status
	return e.end != endsRun
}

// put lays a text behind what a name has already.
func (r *run) put(name, text string) {
	i, _ := slices.BinarySearch(r.names, name)
	r.texts[i].WriteString(text)
}

func (r *run) tell(f File, what string) {
	r.told = append(r.told, f.Name+": "+what)
}

func (r *run) result() Result {
	all := Result{Out: r.texts[0].String(), Told: r.told, Status: r.status()}
	for i, name := range r.names {
		if name != theOutput {
			all.Wrote = append(all.Wrote, Written{strings.Clone(name), r.texts[i].String()})
		}
	}
	return all
}

func (r *run) status() int {
	switch {
	case r.short:
		return 4
	case r.said != 0:
		return r.said
	case r.unread:
		return 2
	default:
		return 0
	}
}
