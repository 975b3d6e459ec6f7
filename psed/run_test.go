package psed_test

import (
	"fmt"
	"math"
	"reflect"
	"strings"
	"testing"

	"psed/psed"
)

// jobOf is a job with one file that may take all the fuel there is.
func jobOf(script, data string) psed.Job {
	return psed.Job{Script: script, Workers: 1, Buffer: 1, Fuel: 5000, Files: []psed.File{{Name: "f", Data: data}}}
}

// shown is a job or a result, cut short if it is long.
func shown(thing any) string {
	return fmt.Sprintf("%.600s", fmt.Sprintf("%#v", thing))
}

// checkRun holds what Run answers to a job against what is wanted, also with the
// script that Print writes, and with other Workers and another Buffer.
func checkRun(t *testing.T, job psed.Job, want psed.Result) {
	t.Helper()
	plain, _, _ := psed.Print(job.Script)
	otherwise, printed := job, job
	otherwise.Workers, otherwise.Buffer = 17-job.Workers, 65-job.Buffer
	printed.Script = plain
	for _, j := range []psed.Job{job, otherwise, printed} {
		if got, e, place := psed.Run(j); e != psed.OK || place != 0 || !reflect.DeepEqual(got, want) {
			t.Errorf("Run(%s) = %s, %d, %d, want %s", shown(j), shown(got), e, place, shown(want))
		}
	}
}

// edit is a script, a file's data, and what is put out.
type edit struct{ script, data, out string }

func checkEdits(t *testing.T, edits ...edit) {
	t.Helper()
	for _, c := range edits {
		checkRun(t, jobOf(c.script, c.data), psed.Result{Out: c.out})
	}
}

func checkQuiet(t *testing.T, edits ...edit) {
	t.Helper()
	for _, c := range edits {
		job := jobOf(c.script, c.data)
		job.Quiet = true
		checkRun(t, job, psed.Result{Out: c.out})
	}
}

// filesOf are files of these data, by the names f0, f1 and so on.
func filesOf(data ...string) []psed.File {
	var files []psed.File
	for i, d := range data {
		files = append(files, psed.File{Name: "f" + string(rune('0'+i)), Data: d})
	}
	return files
}

// The mistakes that a job may have, each with what it is answered with, in the
// order in which they are named.
func jobMistakes() []struct {
	make  func(*psed.Job)
	e     psed.Errno
	place int
} {
	return []struct {
		make  func(*psed.Job)
		e     psed.Errno
		place int
	}{
		{func(j *psed.Job) { j.Script = strings.Repeat("p\n", 501) }, psed.ErrLong, 0},
		{func(j *psed.Job) { j.Script = "p\np p" }, psed.ErrScript, 3},
		{func(j *psed.Job) { j.Script = "p\nb a" }, psed.ErrLabel, 2},
		{func(j *psed.Job) { j.Files = append(j.Files, make([]psed.File, 10)...) }, psed.ErrLong, 12},
		{func(j *psed.Job) { j.Files[1].Data = as(1501) }, psed.ErrLong, 1},
		{func(j *psed.Job) { j.Files[2].Name = as(21) }, psed.ErrLong, 2},
		{func(j *psed.Job) { j.Workers = 0 }, psed.ErrRange, 0},
		{func(j *psed.Job) { j.Buffer = 0 }, psed.ErrRange, 0},
		{func(j *psed.Job) { j.Fuel = -1 }, psed.ErrRange, 0},
	}
}

func checkNoRun(t *testing.T, job psed.Job, want psed.Errno, at int) {
	t.Helper()
	if got, e, place := psed.Run(job); e != want || place != at || !reflect.DeepEqual(got, psed.Result{}) {
		t.Errorf("Run(%s) = %s, %d, %d, want nothing, %d, %d", shown(job), shown(got), e, place, want, at)
	}
}

func TestP6Errors(t *testing.T) {
	for i, first := range jobMistakes() {
		job := jobOf("p", "")
		job.Files = filesOf("a", "b", "c")
		first.make(&job)
		checkNoRun(t, job, first.e, first.place)
		for _, later := range jobMistakes()[i+1:] {
			script := job.Script
			later.make(&job)
			if i < 3 {
				job.Script = script // two mistakes of one script are not asked for here
			}
			checkNoRun(t, job, first.e, first.place)
		}
	}
}

// Every error of Check is one of Run.
func TestP6Scripts(t *testing.T) {
	for _, script := range []string{"p p", "{", "}", "s/a", "s/a/\\1/", "y/aa/bc/", "/[/p", ":a\n:a", "t x", strings.Repeat("p\n", 61), as(1001)} {
		e, place := psed.Check(script)
		checkNoRun(t, jobOf(script, "a\n"), e, place)
		job := jobOf(script, "a\n")
		job.Files = nil
		checkNoRun(t, job, e, place)
	}
}

func TestP6FirstFile(t *testing.T) {
	for i := range 12 {
		job := jobOf("p", "")
		job.Files = make([]psed.File, 12)
		job.Files[i].Data = as(1501)
		job.Files[11].Name = as(21)
		checkNoRun(t, job, psed.ErrLong, i)
		job.Files[i].Name = as(21)
		job.Files[i].Data = ""
		job.Files[11].Data = as(1501)
		job.Files[11].Bad = true
		checkNoRun(t, job, psed.ErrLong, i)
		job.Files = append(job.Files, psed.File{})
		checkNoRun(t, job, psed.ErrLong, 12)
	}
}

func TestP6Limits(t *testing.T) {
	for number, e := range map[int]psed.Errno{0: psed.ErrRange, 1: psed.OK, 2: psed.OK, 16: psed.OK, 17: psed.ErrRange, -1: psed.ErrRange, math.MinInt: psed.ErrRange, math.MaxInt: psed.ErrRange} {
		job := jobOf("", "a")
		job.Workers = number
		checkErrno(t, job, e)
	}
	for number, e := range map[int]psed.Errno{0: psed.ErrRange, 1: psed.OK, 64: psed.OK, 65: psed.ErrRange, -1: psed.ErrRange, math.MinInt: psed.ErrRange, math.MaxInt: psed.ErrRange} {
		job := jobOf("", "a")
		job.Buffer = number
		checkErrno(t, job, e)
	}
	for number, e := range map[int]psed.Errno{-1: psed.ErrRange, 0: psed.OK, 1: psed.OK, 5000: psed.OK, 5001: psed.ErrRange, math.MinInt: psed.ErrRange, math.MaxInt: psed.ErrRange} {
		job := jobOf("", "a")
		job.Fuel = number
		checkErrno(t, job, e)
	}
}

func checkErrno(t *testing.T, job psed.Job, want psed.Errno) {
	t.Helper()
	if _, e, place := psed.Run(job); e != want || place != 0 {
		t.Errorf("Run(%s) answers %d, %d, want %d, 0", shown(job), e, place, want)
	}
}

// What is just within the limits is edited.
func TestP6Greatest(t *testing.T) {
	checkEdits(t, edit{"", as(1500), as(1500) + "\n"}, edit{strings.Repeat("\n", 999) + "p", "a", "a\na\n"})
	job := jobOf("=", "")
	job.Files = make([]psed.File, 12)
	want := psed.Result{Status: 2}
	for i := range job.Files {
		job.Files[i] = psed.File{Name: strings.Repeat("n", 20), Bad: true}
		want.Told = append(want.Told, strings.Repeat("n", 20)+": cannot be read")
	}
	checkRun(t, job, want)
	job.Files = nil
	checkRun(t, job, psed.Result{})
}

func TestP6Lines(t *testing.T) {
	for data, out := range map[string]string{
		"":           "",
		"\n":         "1\n[]\n",
		"\n\n\n":     "1\n[]\n2\n[]\n3\n[]\n",
		"a":          "1\n[a]\n",
		"a\n":        "1\n[a]\n",
		"a\nb":       "1\n[a]\n2\n[b]\n",
		"a\nb\n":     "1\n[a]\n2\n[b]\n",
		"a\n\n":      "1\n[a]\n2\n[]\n",
		"\na":        "1\n[]\n2\n[a]\n",
		"\x00\n\xff": "1\n[\x00]\n2\n[\xff]\n",
		"a\r\n ":     "1\n[a\r]\n2\n[ ]\n",
	} {
		checkEdits(t, edit{"=\ns/.*/[&]/", data, out})
	}
	checkQuiet(t, edit{"$p", "a\nb", "b\n"}, edit{"$p", "a\nb\n", "b\n"}, edit{"$p", "a\n\n", "\n"}, edit{"$p", "", ""}, edit{"$p", "\n", "\n"})
}

// Nothing goes from one file to the next.
func TestP6EachForItself(t *testing.T) {
	for _, c := range []struct{ script, one, other, out string }{
		{"=", "a\nb\n", "c\nd", "1\na\n2\nb\n1\nc\n2\nd\n"},
		{"1d", "a\nb\n", "c\nd", "b\nd\n"},
		{"$d", "a\nb\n", "c\nd", "a\nc\n"},
		{"H\ng", "a\n", "c\n", "\na\n\nc\n"},
		{"x", "a\nb\n", "c\nd", "\na\n\nc\n"},
		{"/b/,/d/d", "a\nb\n", "c\nd\ne", "a\nc\nd\ne\n"},
		{"2,3d", "a\nb\n", "c\nd\ne\nf", "a\nc\nf\n"},
		{"t\ns/a/b/\nn\n", "a\n", "c\nd", "b\nc\nd\n"},
		{"a x\nn", "a\n", "c\n", "a\nx\nc\nx\n"},
		{"N\ns/\\n/-/", "a\n", "c\nd", "a\nc-d\n"},
		{"n\nd", "a\n", "c\nd\n", "a\nc\n"},
		{"$!N\nP\nD", "a\nb\n", "c\nd\n", "a\nb\nc\nd\n"},
		{"d", "a\n", "c\n", ""},
	} {
		job := jobOf(c.script, "")
		job.Files = filesOf(c.one, c.other)
		checkRun(t, job, psed.Result{Out: c.out})
		job.Files = filesOf(c.one, "", c.other, "")
		checkRun(t, job, psed.Result{Out: c.out})
	}
}

func TestP6InOrder(t *testing.T) {
	job := jobOf("", "")
	job.Files = filesOf("a", "b", "c", "d", "e", "f", "g", "h", "i", "j", "k", "l")
	checkRun(t, job, psed.Result{Out: "a\nb\nc\nd\ne\nf\ng\nh\ni\nj\nk\nl\n"})
}
