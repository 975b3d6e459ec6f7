package psed_test

import (
	"strings"
	"testing"

	"psed/psed"
)

// short is what Run answers if the run ends at the file f for want of something.
func short(out, what string) psed.Result {
	return psed.Result{Out: out, Told: []string{"f: out of " + what}, Status: 4}
}

// How much fuel a script needs over data, and what is put out with that, and
// with one less.
func TestP9Fuel(t *testing.T) {
	for _, c := range []struct {
		script, data string
		need         int
		out, less    string
	}{
		{"p", "a", 1, "a\na\n", ""},
		{"p", "a\nb", 2, "a\na\nb\nb\n", "a\na\n"},
		{"=\np\np", "a", 3, "1\na\na\na\n", "1\na\n"},
		{"9p\n$!p\n/x/p\n1,2!p\n!p", "a", 5, "a\n", ""},
		{"{\np\n}", "a", 3, "a\na\n", "a\n"},
		{"!{\np\np\n}\n=", "a", 2, "1\na\n", ""},
		{"{\n!{\np\n}\n}", "a", 3, "a\n", ""},
		{":a\n:b\np", "a", 3, "a\na\n", ""},
		{"b x\np\np\n:x\n=", "a", 2, "1\na\n", ""},
		{"b\np", "a", 1, "a\n", ""},
		{"s/a/b/\nt\np", "a", 2, "b\n", ""},
		{":a\ns/a/b/\nt a", "aa", 7, "bb\n", ""},
		{"p\nd\np", "a\nb", 4, "a\nb\n", "a\nb\n"},
		{"n\np", "a\nb\nc", 3, "a\nb\nb\nc\n", "a\nb\nb\n"},
		{"N\np", "a\nb\nc", 3, "a\nb\na\nb\nc\n", "a\nb\na\nb\n"},
		{"$!N\nP\nD", "a\nb", 6, "a\nb\n", "a\nb\n"},
		{"i x\na y", "a", 2, "x\na\ny\n", "x\n"},
		{"a y\nn\n=", "a\nb", 3, "a\ny\n2\nb\n", "a\ny\n"},
		{"c x", "a\nb", 2, "x\nx\n", "x\n"},
		{"q", "a\nb", 1, "a\n", ""},
		{"p\nQ", "a\nb", 2, "a\n", "a\n"},
	} {
		job := jobOf(c.script, c.data)
		job.Fuel = c.need
		checkRun(t, job, psed.Result{Out: c.out})
		job.Fuel = c.need - 1
		checkRun(t, job, short(c.less, "fuel"))
	}
}

func TestP9NoFuel(t *testing.T) {
	job := jobOf("", "a\nb")
	job.Fuel = 0
	checkRun(t, job, psed.Result{Out: "a\nb\n"})
	job.Script = "!p"
	checkRun(t, job, short("", "fuel"))
	job.Files[0].Data = ""
	checkRun(t, job, psed.Result{})
}

// What does not end of itself is ended.
func TestP9Endless(t *testing.T) {
	for _, script := range []string{":a\nb a", ":a\ns/a/a/\nt a", "G\nD", ":a\n!p\nb a", "{\n:a\n}\nb a", "s/x*/\\n/\nD"} {
		checkRun(t, jobOf(script, "a\n"), short("", "fuel"))
	}
	checkRun(t, jobOf(":a\n=\nb a", "a\n"), short(strings.Repeat("1\n", 2500), "fuel"))
}

// Each file has the fuel of its own.
func TestP9FuelOfEachFile(t *testing.T) {
	job := jobOf("p", "")
	job.Fuel = 2
	job.Files = filesOf("a\nb", "c\nd", "e\nf\ng", "h")
	checkRun(t, job, psed.Result{Out: "a\na\nb\nb\nc\nc\nd\nd\ne\ne\nf\nf\n", Told: []string{"f2: out of fuel"}, Status: 4})
}

func TestP9RoomOfPattern(t *testing.T) {
	for _, c := range []struct {
		script string
		fits   int // how long a line may be
		out    func(line string) string
	}{
		{"", 1500, func(line string) string { return line + "\n" }},
		{"p", 300, func(line string) string { return line + "\n" + line + "\n" }},
		{"!p", 300, func(line string) string { return line + "\n" }},
		{"/x/{\np\n}", 300, func(line string) string { return line + "\n" }},
		{"s/$/x/", 299, func(line string) string { return line + "x\n" }},
		{"s/$/xyz/\ns/xy//", 297, func(line string) string { return line + "z\n" }},
		{"G", 299, func(line string) string { return line + "\n\n" }},
		{"h\nG", 149, func(line string) string { return line + "\n" + line + "\n" }},
		{"y/a/b/", 300, func(line string) string { return strings.ReplaceAll(line, "a", "b") + "\n" }},
		{"d", 300, func(line string) string { return "" }},
		{"q", 300, func(line string) string { return line + "\n" }},
		{"n", 300, func(line string) string { return line + "\n" }},
		{"=", 300, func(line string) string { return "1\n" + line + "\n" }},
	} {
		line := as(c.fits)
		checkRun(t, jobOf(c.script, line), psed.Result{Out: c.out(line)})
		job := jobOf(c.script, line+"a")
		if got, e, place := psed.Run(job); c.script != "" && (e != psed.OK || place != 0 || got.Status != 4 || len(got.Told) != 1 || got.Told[0] != "f: out of room") {
			t.Errorf("Run(%s) = %s, %d, %d", shown(job), shown(got), e, place)
		}
	}
}

// The run ends behind the command, not within it: what that put out stays.
func TestP9BehindTheCommand(t *testing.T) {
	line, long := as(300), as(301)
	for _, c := range []struct{ script, data, out string }{
		{"p", long, long + "\n"}, {"P\np", long, long + "\n"}, {"=\np", long, "1\n"}, {"i x", long, "x\n"}, {"c x", long, "x\n"}, {"!p\np", long, ""}, {"d", long, ""}, {"a x\nd", long, ""}, {"D", long, ""}, {"Q3", long, ""},
		{"q3", long + "\nb", long + "\n"}, {"n\np", long + "\nb\n" + long, long + "\nb\nb\n" + long + "\n"}, {"n\np", "a\n" + long, "a\n"}, {"N\np", "a\n" + as(299), ""}, {"N\np", long, long + "\n"},
		{"s/$/x/p\np", line, line + "x\n"}, {"s/a/b/", long, ""}, {"G\np", line, ""}, {"p\nx\nG\np", line, line + "\n"}, {"b\np", long, ""}, {"{\np\n}", long, ""}, {"2{\np\n}", long, ""}, {":a\np", long, ""}, {"$!p", "a\n" + long, "a\na\n"},
	} {
		checkRun(t, jobOf(c.script, c.data), short(c.out, "room"))
	}
}

func TestP9RoomOfHeld(t *testing.T) {
	checkRun(t, jobOf("H\nd", as(299)), psed.Result{})
	checkRun(t, jobOf("H\nd", as(300)), short("", "room"))
	checkRun(t, jobOf("h\nd", as(300)), psed.Result{})
	checkRun(t, jobOf("H\np\nd", as(149)+"\n"+as(149)+"\n"), psed.Result{Out: as(149) + "\n" + as(149) + "\n"})
	checkRun(t, jobOf("H\np\nd", as(149)+"\n"+as(150)+"\n"), short(as(149)+"\n", "room"))
	checkRun(t, jobOf("h\nH\nH\nx\nd", as(99)), psed.Result{})
	checkRun(t, jobOf("h\nH\nH\nx\nd", as(100)), short("", "room"))
	checkRun(t, jobOf("x\nd", as(300)+"\n"+as(300)), psed.Result{})
}

// What is written till the run ends stays, and fuel that is spent goes ahead of
// room that is short.
func TestP9Written(t *testing.T) {
	job := jobOf("w o\ns/$/x/pw p", "a\n"+as(300)+"\nb")
	want := short("ax\nax\n"+as(300)+"x\n", "room")
	want.Wrote = []psed.Written{{Name: "o", Data: "a\n" + as(300) + "\n"}, {Name: "p", Data: "ax\n" + as(300) + "x\n"}}
	checkRun(t, job, want)
	job.Fuel = 3
	want = short("ax\nax\n", "fuel")
	want.Wrote = []psed.Written{{Name: "o", Data: "a\n" + as(300) + "\n"}, {Name: "p", Data: "ax\n"}}
	checkRun(t, job, want)
	job = jobOf("p", as(301))
	job.Fuel = 0
	checkRun(t, job, short("", "fuel"))
}

// badFile is a file that cannot be read, though it has data.
func badFile(name string) psed.File {
	return psed.File{Name: name, Data: "data\n", Bad: true}
}

func TestP10Told(t *testing.T) {
	job := jobOf("=", "")
	job.Files = []psed.File{badFile("x"), {Name: "f", Data: "a"}, badFile("y"), badFile(""), badFile("x"), {Name: "g", Data: "b"}, badFile("a: b\n")}
	checkRun(t, job, psed.Result{Out: "1\na\n1\nb\n", Told: []string{"x: cannot be read", "y: cannot be read", ": cannot be read", "x: cannot be read", "a: b\n: cannot be read"}, Status: 2})
	job.Files = []psed.File{badFile("z"), badFile("a")}
	checkRun(t, job, psed.Result{Told: []string{"z: cannot be read", "a: cannot be read"}, Status: 2})
	job.Files = []psed.File{badFile("z"), {Name: "", Data: as(301)}, badFile("y")}
	checkRun(t, job, psed.Result{Out: "1\n", Told: []string{"z: cannot be read", ": out of room"}, Status: 4})
	job.Fuel = 0
	checkRun(t, job, psed.Result{Told: []string{"z: cannot be read", ": out of fuel"}, Status: 4})
}

func TestP11Wrote(t *testing.T) {
	job := jobOf("w z\n2w b\ns/x/y/w c\ns/a/&/gpw b\n/none/w ab\n!{\nw a\n}", "")
	job.Files = filesOf("a\nx", "", "x\na")
	checkRun(t, job, psed.Result{Out: "a\na\ny\ny\na\na\n", Wrote: []psed.Written{
		{Name: "a"}, {Name: "ab"}, {Name: "b", Data: "a\nx\na\na\n"}, {Name: "c", Data: "y\ny\n"}, {Name: "z", Data: "a\nx\nx\na\n"},
	}})
	job.Files = nil
	checkRun(t, job, psed.Result{Wrote: []psed.Written{{Name: "a"}, {Name: "ab"}, {Name: "b"}, {Name: "c"}, {Name: "z"}}})
	job.Script = "b x\nw never\n:x\na w text"
	checkRun(t, job, psed.Result{Wrote: []psed.Written{{Name: "never"}}})
}

func TestP11Status(t *testing.T) {
	one, endless := psed.File{Name: "f", Data: "a"}, psed.File{Name: "l", Data: "loop"}
	for _, c := range []struct {
		script string
		files  []psed.File
		status int
	}{
		{"p", []psed.File{one}, 0}, {"q", []psed.File{one}, 0}, {"q7", []psed.File{one}, 7}, {"Q7", []psed.File{one}, 7}, {"q2", []psed.File{one}, 2},
		{"p", []psed.File{badFile("x"), one}, 2}, {"p", []psed.File{one, badFile("x")}, 2},
		{"q", []psed.File{badFile("x"), one}, 2}, {"Q0", []psed.File{badFile("x"), one}, 2}, {"q7", []psed.File{badFile("x"), one}, 7}, {"Q1", []psed.File{badFile("x"), one}, 1},
		{"q", []psed.File{one, badFile("x")}, 0}, {"Q3", []psed.File{one, badFile("x")}, 3},
		{"/a/q3\n:a\nb a", []psed.File{endless, one}, 4}, {"/a/q3\n:a\nb a", []psed.File{one, endless}, 3}, {"/a/q\n:a\nb a", []psed.File{one, endless}, 0},
		{":a\nb a", []psed.File{badFile("x"), endless}, 4}, {":a\nb a", []psed.File{endless, badFile("x")}, 4}, {"G\nb", []psed.File{{Name: "f", Data: as(300)}}, 4}, {"q3", []psed.File{{Name: "f", Data: as(301)}}, 4},
		{"q3", nil, 0}, {"q3", []psed.File{{Name: "f"}}, 0}, {"q3", []psed.File{{Name: "f"}, badFile("x"), {Name: "g"}}, 2},
	} {
		job := jobOf(c.script, "")
		job.Files = c.files
		if got, e, _ := psed.Run(job); e != psed.OK || got.Status != c.status {
			t.Errorf("Run(%s) has status %d, %d, want %d", shown(job), got.Status, e, c.status)
		}
	}
}

// Nothing of the files behind the one at which the run ended is seen.
func TestRunEnds(t *testing.T) {
	files := append(filesOf("a", "b", "c", "d"), badFile("x"))
	for script, want := range map[string]psed.Result{
		"w o\n/c/q":                             {Out: "a\nb\nc\n", Wrote: []psed.Written{{Name: "o", Data: "a\nb\nc\n"}}},
		"w o\n/c/Q6":                            {Out: "a\nb\n", Wrote: []psed.Written{{Name: "o", Data: "a\nb\nc\n"}}, Status: 6},
		"w o\n:a\n/b/b a":                       {Out: "a\n", Wrote: []psed.Written{{Name: "o", Data: "a\nb\n"}}, Told: []string{"f1: out of fuel"}, Status: 4},
		"w o\n/a/!G\n/b/{\n:a\nG\nG\nh\nb a\n}": {Out: "a\n", Wrote: []psed.Written{{Name: "o", Data: "a\nb\n"}}, Told: []string{"f1: out of room"}, Status: 4},
		"w o\n/d/q":                             {Out: "a\nb\nc\nd\n", Wrote: []psed.Written{{Name: "o", Data: "a\nb\nc\nd\n"}}},
		"w o":                                   {Out: "a\nb\nc\nd\n", Wrote: []psed.Written{{Name: "o", Data: "a\nb\nc\nd\n"}}, Told: []string{"x: cannot be read"}, Status: 2},
	} {
		job := jobOf(script, "")
		job.Files = files
		checkRun(t, job, want)
	}
}
