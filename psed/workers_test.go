package psed_test

import (
	"math/rand"
	"reflect"
	"runtime"
	"slices"
	"strings"
	"testing"
	"testing/synctest"
	"time"

	"psed/psed"
)

// anyhow is a job with few and many Workers, fewer and more than there may be
// files, and with a small and a great Buffer.
func anyhow(job psed.Job) []psed.Job {
	var jobs []psed.Job
	for _, job.Workers = range []int{1, 2, 3, 5, 12, 13, 16} {
		for _, job.Buffer = range []int{1, 2, 7, 64} {
			jobs = append(jobs, job)
		}
	}
	return jobs
}

// checkAnyhow holds what Run answers to a job, with many Workers and Buffers,
// and asked twice, against what is wanted.
func checkAnyhow(t *testing.T, job psed.Job, want psed.Result) {
	t.Helper()
	for _, j := range anyhow(job) {
		for range 2 {
			if got, e, place := psed.Run(j); e != psed.OK || place != 0 || !reflect.DeepEqual(got, want) {
				t.Errorf("Run(%s) with %d workers and %d pieces = %s, %d, %d, want %s", shown(j.Script), j.Workers, j.Buffer, shown(got), e, place, shown(want))
			}
		}
	}
}

// oneByOne is what Run should answer to a job, put together from runs of one
// file each. A file that cannot be read stands behind it, and tells by being
// told that the run did not end there.
func oneByOne(job psed.Job) psed.Result {
	job.Workers, job.Buffer = 1, 1
	files := job.Files
	job.Files = nil
	all, _, _ := psed.Run(job)
	for _, f := range files {
		job.Files = []psed.File{f, badFile("behind")}
		one, _, _ := psed.Run(job)
		goesOn := len(one.Told) > 0 && one.Told[len(one.Told)-1] == "behind: cannot be read"
		if goesOn {
			one.Told = one.Told[:len(one.Told)-1]
		}
		all.Out += one.Out
		for i, w := range one.Wrote {
			all.Wrote[i].Data += w.Data
		}
		all.Told = append(all.Told, one.Told...)
		if !goesOn {
			if one.Status != 0 {
				all.Status = one.Status
			}
			return all
		}
		if f.Bad {
			all.Status = 2
		}
	}
	return all
}

func TestP12AnyWorkersAndBuffer(t *testing.T) {
	files := filesOf("a\nb\n", "", "c\nd\ne", "\n\n\n", "f", strings.Repeat("g\n", 70), "h\ni\n", "\n", "j\nk\nl\nm\nn\n", "o")
	files = slices.Insert(files, 3, badFile("x"))
	files = append(files, badFile("y"))
	for _, script := range []string{"", "p\nw one\np\nw two\nw one", "=\na x\ni y\n$!N\nP\nD", "1!G\nh\n$!d", "s/./&\\n&/gpw o\ny/g/z/", "d", "$q5", "/k/q", "/k/Q7", "/g/{\n40q\n}", "/c/w o\n/o/q3", "/h/{\n:a\nb a\n}", "/h/{\n:a\ns/.*/&&/\nb a\n}"} {
		for _, quiet := range []bool{false, true} {
			job := psed.Job{Script: script, Quiet: quiet, Fuel: 1000, Files: files}
			checkAnyhow(t, job, oneByOne(job))
		}
	}
}

func TestP12SomeJobs(t *testing.T) {
	r := rand.New(rand.NewSource(9))
	for range 2000 {
		job := someJob(r)
		for len(job.Files) < r.Intn(13) {
			job.Files = append(job.Files, someJob(r).Files...)
		}
		job.Files = job.Files[:min(len(job.Files), 12)]
		got, e, _ := psed.Run(job)
		if e != psed.OK {
			continue
		}
		if want := oneByOne(job); !reflect.DeepEqual(got, want) {
			t.Errorf("Run(%s) = %s, want %s", shown(job), shown(got), shown(want))
		}
		job.Workers, job.Buffer = 1+r.Intn(16), 1+r.Intn(64)
		if again, _, _ := psed.Run(job); !reflect.DeepEqual(got, again) {
			t.Errorf("Run(%s) = %s, else %s", shown(job), shown(again), shown(got))
		}
	}
}

// ending is a way to end a run at a line.
type ending struct {
	commands string
	out      string // what is still put out
	told     string
	status   int
}

func endings() []ending {
	return []ending{
		{commands: "q", out: "end\n"}, {commands: "q0", out: "end\n"}, {commands: "q3", out: "end\n", status: 3},
		{commands: "Q"}, {commands: "Q0"}, {commands: "Q2", status: 2}, {commands: "Q9", status: 9},
		{commands: "{\n:a\nb a\n}", told: ": out of fuel", status: 4},
		{commands: "{\n=\n:a\ns/.*/&&/\nb a\n}", out: "31\n", told: ": out of room", status: 4},
	}
}

// A file ahead of the end has 60 lines, that of the end has it at line 31, and
// all behind have it at their first line: they are done ahead of those ahead.
func endingFiles(at int) []psed.File {
	files := make([]psed.File, 12)
	for i := range files {
		line := string(rune('a'+i)) + "\n"
		files[i] = psed.File{Name: "f" + line[:1], Data: strings.Repeat(line, 60), Bad: i == 2 || i == 9}
		if i == at {
			files[i].Data = strings.Repeat(line, 30) + "end\n" + strings.Repeat(line, 30)
		}
		if i > at {
			files[i].Data = "end\n" + files[i].Data
		}
	}
	return files
}

func TestP12Ends(t *testing.T) {
	for _, at := range []int{0, 1, 3, 6, 8, 10, 11} {
		files := endingFiles(at)
		for _, end := range endings() {
			want := psed.Result{Status: end.status}
			for i, f := range files[:at+1] {
				switch {
				case f.Bad:
					want.Told = append(want.Told, f.Name+": cannot be read")
					if end.status == 0 {
						want.Status = 2
					}
				case i < at:
					want.Out += f.Data
				default:
					want.Out += f.Data[:60] + end.out
				}
			}
			wrote := strings.ReplaceAll(want.Out, "31\n", "")
			if end.out != "end\n" {
				wrote += "end\n"
			}
			want.Wrote = []psed.Written{{Name: "o", Data: wrote}}
			if end.told != "" {
				want.Told = append(want.Told, files[at].Name+end.told)
			}
			checkAnyhow(t, psed.Job{Script: "w o\n/end/" + end.commands, Fuel: 2000, Files: files}, want)
		}
	}
}

// Files that put out, and write, many more pieces than any Buffer holds, ahead of
// the file at which the run ends, and behind it.
func TestP12ManyPieces(t *testing.T) {
	lines := strings.Repeat("x\n", 740)
	for _, at := range []int{0, 5, 11} {
		files := make([]psed.File, 12)
		for i := range files {
			files[i] = psed.File{Name: "f", Data: lines}
		}
		files[at].Data = lines + "y\nx\n"
		job := psed.Job{Script: "p\nw a\ns/x/x/pw b\n/y/q1", Fuel: 5000, Files: files}
		ahead := strings.Repeat(lines, at+1)
		want := psed.Result{Out: strings.ReplaceAll(ahead, "x\n", "x\nx\nx\n") + "y\ny\n", Wrote: []psed.Written{{Name: "a", Data: ahead + "y\n"}, {Name: "b", Data: ahead}}, Status: 1}
		checkAnyhow(t, job, want)
	}
}

func TestP12FewFiles(t *testing.T) {
	none := []psed.Written{{Name: "o"}}
	for _, c := range []struct {
		script string
		files  []psed.File
		want   psed.Result
	}{
		{"w o", nil, psed.Result{Wrote: none}},
		{"w o\nq3", []psed.File{}, psed.Result{Wrote: none}},
		{"w o", filesOf("a\nb"), psed.Result{Out: "a\nb\n", Wrote: []psed.Written{{Name: "o", Data: "a\nb\n"}}}},
		{"w o\nq3", filesOf("a\nb"), psed.Result{Out: "a\n", Wrote: []psed.Written{{Name: "o", Data: "a\n"}}, Status: 3}},
		{"w o", []psed.File{badFile("x")}, psed.Result{Wrote: none, Told: []string{"x: cannot be read"}, Status: 2}},
		{"w o", filesOf("", "", "", ""), psed.Result{Wrote: none}},
		{"d\nw o", filesOf("a", "b\nc", "", "d"), psed.Result{Wrote: none}},
		{"/c/Q1\nd\nw o", filesOf("a", "b\nc", "", "d"), psed.Result{Wrote: none, Status: 1}},
		{"!w o\n$!d\n/c/!d", filesOf("a\nb", "", "a\nc", "", "b"), psed.Result{Out: "c\n", Wrote: none}},
	} {
		checkAnyhow(t, psed.Job{Script: c.script, Fuel: 100, Files: c.files}, c.want)
	}
}

// endingJobs are jobs that end early, and one that does not, beside files that
// wait to put more out, and files that are still busy.
func endingJobs() []psed.Job {
	busy := ":a\ns/x/&/\ny/x/x/\nt a\n"
	files := make([]psed.File, 12)
	for i := range files {
		files[i].Data = strings.Repeat("x\n", 700)
	}
	var jobs []psed.Job
	for _, at := range []int{0, 5, 11} {
		theirs := slices.Clone(files)
		theirs[at].Data = "end\n"
		for _, end := range endings() {
			jobs = append(jobs, psed.Job{Script: "/end/" + end.commands, Fuel: 5000, Files: theirs})
			if at == 0 {
				jobs = append(jobs, psed.Job{Script: "/end/" + end.commands + "\n" + busy, Fuel: 5000, Files: theirs})
			}
		}
	}
	return append(jobs, psed.Job{Script: "p", Fuel: 5000, Files: files})
}

// No goroutine is left when Run answers: none that waits (a bubble does not end
// while one does), and none that is at work.
func TestWorkersHaveEnded(t *testing.T) {
	for _, job := range endingJobs() {
		synctest.Test(t, func(t *testing.T) {
			for _, j := range anyhow(job) {
				psed.Run(j)
			}
		})
	}
	before := runtime.NumGoroutine()
	for _, job := range endingJobs() {
		for _, j := range anyhow(job) {
			psed.Run(j)
		}
	}
	for range 1000 {
		if runtime.NumGoroutine() <= before {
			return
		}
		time.Sleep(time.Millisecond) // one that is done may still be counted
	}
	t.Errorf("%d goroutines, %d before", runtime.NumGoroutine(), before)
}
