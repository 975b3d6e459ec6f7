package psed_test

import (
	"math"
	"math/rand"
	"reflect"
	"slices"
	"strings"
	"sync"
	"testing"

	"psed/psed"
)

// Expressions that can be matched in very many ways.
func manyWays() []string {
	return []string{
		strings.Repeat("a*", 29) + "b",
		strings.Repeat(`\(`, 9) + "a*" + strings.Repeat(`\)*`, 9) + "b",
		strings.Repeat(`\(`, 5) + "a*" + strings.Repeat(`\)\{9,\}`, 5) + "b",
		strings.Repeat(`\(`, 5) + "a*" + strings.Repeat(`\)\{0,9\}`, 5) + "b",
		strings.Repeat(`\(`, 5) + strings.Repeat(`\)\{9,\}`, 5),
		strings.Repeat(`\(a*\)*`, 8) + "b$",
		strings.Repeat(`\(a*\)*`, 8) + "$",
	}
}

func TestP1Ends(t *testing.T) {
	text := strings.Repeat("a", 200)
	for _, expr := range manyWays() {
		if _, e, place := psed.Match(expr, text, 0); e != psed.OK || place != 0 {
			t.Errorf("Match(%q, ..) answers %d at %d", expr, e, place)
		}
	}
}

// answers asks Match and holds what it answers against what P1 says of every
// answer.
func answers(t *testing.T, expr, text string, at int) {
	spans, e, place := psed.Match(expr, text, at)
	switch {
	case e != psed.OK && spans != nil,
		e != psed.ErrExpr && place != 0,
		place < 0 || place > len(expr),
		e == psed.OK && spans != nil && (spans[0] < at || spans[1] < spans[0] || spans[1] > len(text)):
		t.Errorf("Match(%q, %q, %d) = %v, %d, %d", expr, text, at, spans, e, place)
	}
}

func TestP1AllArguments(t *testing.T) {
	for _, at := range []int{math.MinInt, -1, 0, 1, 2, math.MaxInt} {
		for _, expr := range []string{"", "a", "*", "\x00", "\xff", strings.Repeat("a", 100000)} {
			for _, text := range []string{"", "a", "\n", "\x00\xff", strings.Repeat("a", 100000)} {
				answers(t, expr, text, at)
			}
		}
	}
	for a := range 256 {
		for b := range 256 {
			answers(t, string([]byte{byte(a), byte(b)}), "a", 0)
		}
	}
	r := rand.New(rand.NewSource(1))
	for range 20000 {
		answers(t, soup(r, 64), soup(r, 12), r.Intn(16)-2)
	}
}

// soup is a text made of what expressions are made of, and of other bytes.
func soup(r *rand.Rand, most int) string {
	words := []string{"a", "b", ".", "*", `\(`, `\)`, `\(`, `\)`, `\{1,\}`, `\{2\}`, `\{0,3\}`, "[a]", "[^b]", "[a-b]", "[", "]", `\`, "^", "$", "/", "\n", "\x00", "\xff"}
	text := ""
	for range r.Intn(12) {
		text += words[r.Intn(len(words))]
	}
	return text[:min(len(text), most)]
}

// answersScript asks Check and Print and holds what they answer against what P1
// says of every answer.
func answersScript(t *testing.T, script string) {
	t.Helper()
	e, place := psed.Check(script)
	text, again, samePlace := psed.Print(script)
	switch {
	case e != psed.OK && e != psed.ErrLong && e != psed.ErrScript && e != psed.ErrLabel,
		(e == psed.OK || e == psed.ErrLong) && place != 0,
		place < 0 || place > len(script),
		again != e || samePlace != place,
		e != psed.OK && text != "":
		t.Errorf("Check(%.80q) = %d, %d, Print: %.80q, %d, %d", script, e, place, text, again, samePlace)
	}
}

func TestP1Scripts(t *testing.T) {
	for _, script := range []string{
		"\x00\xff", strings.Repeat("{", 1000), strings.Repeat("{\n", 500), strings.Repeat("/", 1000), "s/" + strings.Repeat(`\(`, 499), "y/" + strings.Repeat("\n", 998),
		strings.Repeat("1,", 500), strings.Repeat("!", 1000), strings.Repeat(":a\n", 333), strings.Repeat("\n", 100000), strings.Repeat("p", 100000),
	} {
		answersScript(t, script)
	}
	for a := range 256 {
		for _, before := range []string{"", "1", "1,", "/", "s/", "s/a/", "s/a/\\", "s/a/b/", "y/", "y/a/", "a", "{\n", "b", "b ", ":", "q"} {
			for _, behind := range []string{"", "/", " ", "\n}", "\xff"} {
				answersScript(t, before+string([]byte{byte(a)})+behind)
			}
		}
	}
	r := rand.New(rand.NewSource(2))
	for range 20000 {
		answersScript(t, scriptSoup(r))
	}
}

// scriptSoup is a text made of what scripts are made of, and of other bytes.
func scriptSoup(r *rand.Rand) string {
	words := []string{"1", "$", "/a/", "/", ",", " ", "!", "{\n", "}", "\n", "\n", "\n", ":a", "b a", "t", "p", "d", "a ", "s/a/b/", `s/\(a\)/\1/`, "g", "w a", "y/a/b/", "q1", `\`, "\x00", "\xff"}
	text := ""
	for range r.Intn(12) {
		text += words[r.Intn(len(words))]
	}
	return text
}

// answersRun asks Run and holds what it answers against what P1 and P11 say of
// every answer.
func answersRun(t *testing.T, job psed.Job) psed.Result {
	t.Helper()
	got, e, place := psed.Run(job)
	want, at := psed.Check(job.Script)
	switch {
	case want != psed.OK && (e != want || place != at),
		e != psed.OK && !reflect.DeepEqual(got, psed.Result{}),
		(e == psed.OK || e == psed.ErrRange) && place != 0,
		e == psed.ErrLong && (place < 0 || place > 12),
		got.Status < 0 || got.Status > 9,
		!slices.IsSortedFunc(got.Wrote, func(a, b psed.Written) int { return strings.Compare(a.Name, b.Name) }):
		t.Errorf("Run(%s) = %s, %d, %d", shown(job), shown(got), e, place)
	}
	return got
}

func TestP1Runs(t *testing.T) {
	for _, text := range []string{"", "p", "\x00\xff", "{", strings.Repeat("\n", 100000)} {
		answersRun(t, psed.Job{Script: text})
		answersRun(t, psed.Job{Script: text, Workers: 1, Buffer: 1})
		answersRun(t, psed.Job{Script: text, Workers: -1, Buffer: math.MaxInt, Fuel: math.MinInt, Files: make([]psed.File, 100)})
		answersRun(t, psed.Job{Script: text, Workers: 1, Buffer: 1, Fuel: 5000, Files: []psed.File{{Name: "\x00\n", Data: "\x00\xff\n\n"}, {Bad: true, Data: "a"}, {}}})
	}
	r := rand.New(rand.NewSource(3))
	for range 5000 {
		answersRun(t, someJob(r))
	}
}

// The expressions of a script may be matched in very many ways, too, and in
// longer texts.
func TestP1RunsEnd(t *testing.T) {
	for _, expr := range manyWays() {
		if len(expr) > 60 {
			t.Fatalf("%q is too long", expr)
		}
		job := jobOf("/"+expr+"/s/"+expr+"/x&/g\ns/"+expr+"/x/w o\ny/ab/ba/", as(280)+"\n"+as(1000))
		answersRun(t, job)
	}
}

// someJob is a job that may be wrong, and whose script may be one that does not
// end of itself.
func someJob(r *rand.Rand) psed.Job {
	job := psed.Job{Script: someScript(r), Quiet: r.Intn(2) == 0, Workers: 1 + r.Intn(16), Buffer: 1 + r.Intn(64), Fuel: r.Intn(200)}
	for range r.Intn(4) {
		f := psed.File{Name: soup(r, 30), Data: strings.Repeat(soup(r, 40)+"\n", r.Intn(4)) + soup(r, 3), Bad: r.Intn(5) == 0}
		job.Files = append(job.Files, f)
	}
	switch r.Intn(20) {
	case 0:
		job.Script = scriptSoup(r)
	case 1:
		job.Workers, job.Buffer, job.Fuel = r.Intn(20)-2, r.Intn(70)-2, r.Intn(5010)-5
	case 2:
		job.Files = make([]psed.File, r.Intn(14))
	case 3:
		job.Files = append(job.Files, psed.File{Data: strings.Repeat("a", r.Intn(1600))})
	}
	return job
}

func TestP2OnArgumentsAlone(t *testing.T) {
	ask := func() []int {
		spans, _, _ := psed.Match(`\(a\)*\(b*\)`, "xaabb", 1)
		return spans
	}
	want := []int{1, 5, 2, 3, 3, 5}
	first := ask()
	psed.Match(`\(a\)*\(b*\)`, "xabab", 1)
	psed.Match(`\(a\)\(b`, "xaabb", 1)
	second := ask()
	if !slices.Equal(first, want) || !slices.Equal(second, want) {
		t.Errorf("asked twice: %v, %v, want %v", first, second, want)
	}
	for i := range first {
		first[i] = 99
	}
	_ = append(first[:2], 7, 7, 7)
	if third := ask(); !slices.Equal(second, want) || !slices.Equal(third, want) {
		t.Errorf("one answer changes another: %v, %v, want %v", second, third, want)
	}
}

func TestP2AtTheSameTime(t *testing.T) {
	texts := []string{"ab", "aabb", "b", "", "abab", "bbaa"}
	want := make([][]int, len(texts))
	for i, text := range texts {
		want[i], _, _ = psed.Match(`\(a*\)\(b\)*`, text, 0)
	}
	var all sync.WaitGroup
	for i, text := range texts {
		all.Go(func() {
			for range 200 {
				if got, e, _ := psed.Match(`\(a*\)\(b\)*`, text, 0); e != psed.OK || !slices.Equal(got, want[i]) {
					t.Errorf("Match in %q = %v, %d, want %v", text, got, e, want[i])
				}
				if _, e, place := psed.Match(`\(a*\)\(b\)**`, text, 0); e != psed.ErrExpr || place != 12 {
					t.Errorf("a refusal beside others: %d, %d", e, place)
				}
			}
		})
	}
	all.Wait()
}

func TestP2Scripts(t *testing.T) {
	ask := func(script, want string, e psed.Errno, place int) {
		if got, at := psed.Check(script); got != e || at != place {
			t.Errorf("Check(%q) = %d, %d, want %d, %d", script, got, at, e, place)
		}
		if text, got, at := psed.Print(script); text != want || got != e || at != place {
			t.Errorf("Print(%q) = %q, %d, %d, want %q, %d, %d", script, text, got, at, want, e, place)
		}
	}
	var all sync.WaitGroup
	for range 4 {
		all.Go(func() {
			for range 100 {
				ask(" b a\n :a", "b a\n:a\n", psed.OK, 0)
				ask("b a", "", psed.ErrLabel, 0)
				ask(" {\n :b\n", "", psed.ErrScript, 7)
				ask(":a\n :b", ":a\n:b\n", psed.OK, 0)
				ask("}", "", psed.ErrScript, 0)
				ask(` s/\(a\)/\1/`, "s/\\(a\\)/\\1/\n", psed.OK, 0)
				ask(`s/a/\1/`, "", psed.ErrScript, 5)
			}
		})
	}
	all.Wait()
}

// copyOf is a job that shares nothing with the one given.
func copyOf(job psed.Job) psed.Job {
	job.Files = slices.Clone(job.Files)
	return job
}

// copyOfResult is a result that shares nothing with the one given.
func copyOfResult(r psed.Result) psed.Result {
	r.Wrote, r.Told = slices.Clone(r.Wrote), slices.Clone(r.Told)
	return r
}

// A job is left as it is; asked again, Run answers the same, and nothing that is
// asked later, and nothing that is done to the job or to another answer, changes
// what was answered.
func TestP2Runs(t *testing.T) {
	r := rand.New(rand.NewSource(6))
	for range 1000 {
		job, other := someJob(r), someJob(r)
		before := copyOf(job)
		first, e, place := psed.Run(job)
		want := copyOfResult(first)
		psed.Run(other)
		second, again, same := psed.Run(job)
		if !reflect.DeepEqual(job, before) {
			t.Errorf("Run changed %s to %s", shown(before), shown(job))
		}
		if !reflect.DeepEqual(first, want) || !reflect.DeepEqual(second, want) || e != again || place != same {
			t.Errorf("Run(%s) = %s, %d, %d, and then %s, %d, %d", shown(job), shown(first), e, place, shown(second), again, same)
		}
		for i := range second.Wrote {
			second.Wrote[i] = psed.Written{Name: "x", Data: "y"}
		}
		for i := range second.Told {
			second.Told[i] = "x"
		}
		for i := range job.Files {
			job.Files[i] = psed.File{Name: "x", Data: "y", Bad: true}
		}
		if third, _, _ := psed.Run(before); !reflect.DeepEqual(first, want) || !reflect.DeepEqual(third, want) {
			t.Errorf("Run(%s) = %s, and then %s, want %s", shown(before), shown(first), shown(third), shown(want))
		}
	}
}

func TestP2RunsAtTheSameTime(t *testing.T) {
	r := rand.New(rand.NewSource(7))
	jobs := make([]psed.Job, 50)
	wants := make([]psed.Result, len(jobs))
	for i := range jobs {
		jobs[i] = someJob(r)
		wants[i], _, _ = psed.Run(jobs[i])
	}
	var all sync.WaitGroup
	for range 8 {
		all.Go(func() {
			for i, job := range jobs {
				if got, _, _ := psed.Run(job); !reflect.DeepEqual(got, wants[i]) {
					t.Errorf("Run(%s) = %s, beside others, want %s", shown(job), shown(got), shown(wants[i]))
				}
			}
		})
	}
	all.Wait()
}

// Run does the same with what Print writes, and with any Workers and Buffer.
func TestP5Runs(t *testing.T) {
	r := rand.New(rand.NewSource(8))
	for range 2000 {
		job := someJob(r)
		job.Workers, job.Buffer = 1+r.Intn(16), 1+r.Intn(64)
		if want, e, _ := psed.Run(job); e == psed.OK {
			checkRun(t, job, want)
		}
	}
}

func TestErrnos(t *testing.T) {
	want := []psed.Errno{0, 1, 2, 3, 4, 5}
	got := []psed.Errno{psed.OK, psed.ErrLong, psed.ErrExpr, psed.ErrScript, psed.ErrLabel, psed.ErrRange}
	if !slices.Equal(got, want) {
		t.Errorf("the errors are %d, want %d", got, want)
	}
}
