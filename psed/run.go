package psed

import (
	"slices"
	"strings"
)

// theOutput stands where else the name is of what is written to: no name is
// empty.
const theOutput = ""

// overLimit answers why a job is refused, of whatever script; the zero fault,
// if it is not.
func overLimit(job Job) fault {
	if len(job.Files) > maxFiles {
		return fault{ErrLong, maxFiles}
	}
	for i, f := range job.Files {
		if len(f.Data) > maxData || len(f.Name) > maxName {
			return fault{ErrLong, i}
		}
	}
	if !within(job.Workers, 1, maxWorkers) || !within(job.Buffer, 1, maxBuffer) || !within(job.Fuel, 0, maxFuel) {
		return fault{ErrRange, 0}
	}
	return fault{}
}

func within(number, least, most int) bool {
	return least <= number && number <= most
}

// record gathers what the files of a job put out, in their order.
type record struct {
	names  []string // theOutput, and the names that the script writes to, rising
	texts  []strings.Builder
	told   []string
	said   int // the status of a q or Q
	unread bool
	short  bool
}

func newRecord(commands []command) *record {
	names := []string{theOutput}
	for _, c := range commands {
		names = append(names, c.name)
	}
	slices.Sort(names)
	names = slices.Compact(names)
	return &record{names: names, texts: make([]strings.Builder, len(names))}
}

// take gathers what a file puts out, up to its end, and tells whether the run
// goes on behind it.
func (r *record) take(p *passage) bool {
	for piece := range p.pieces {
		r.lay(piece)
	}
	switch {
	case p.Bad:
		r.tell(p.Name, "cannot be read")
		r.unread = true
	case p.why != "":
		r.tell(p.Name, string(p.why))
		r.short = true
	}
	r.said = p.status
	return !p.endsRun
}

// lay puts a piece behind what its name has already.
func (r *record) lay(piece output) {
	i, _ := slices.BinarySearch(r.names, piece.name)
	r.texts[i].WriteString(piece.text)
}

func (r *record) tell(name, what string) {
	r.told = append(r.told, name+": "+what)
}

func (r *record) result() Result {
	all := Result{Out: r.texts[0].String(), Told: r.told, Status: r.status()}
	for i, name := range r.names {
		if name != theOutput {
			all.Wrote = append(all.Wrote, Written{strings.Clone(name), r.texts[i].String()})
		}
	}
	return all
}

func (r *record) status() int {
	switch {
	case r.short:
		return 4
	case r.said != 0:
		return r.said
	case r.unread:
		return 2
	default:
		return 0
	}
}
