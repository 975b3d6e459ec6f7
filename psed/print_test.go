package psed_test

import (
	"math/rand"
	"strings"
	"testing"

	"psed/psed"
)

// checkPrinted holds what Print writes against what is wanted, and that Check
// takes this and Print writes it again.
func checkPrinted(t *testing.T, script, want string) {
	t.Helper()
	got, e, place := psed.Print(script)
	if got != want || e != psed.OK || place != 0 {
		t.Errorf("Print(%q) = %q, %d, %d, want %q", script, got, e, place, want)
	}
	if e, place := psed.Check(got); e != psed.OK || place != 0 {
		t.Errorf("Check(%q) = %d, %d, but Print wrote it", got, e, place)
	}
	if again, e, place := psed.Print(got); again != got || e != psed.OK || place != 0 {
		t.Errorf("Print(%q) = %q, %d, %d, but Print wrote it", got, again, e, place)
	}
}

func TestP5Lines(t *testing.T) {
	for script, want := range map[string]string{
		"":                       "",
		"\n":                     "",
		" \n\n   ":               "",
		"p":                      "p\n",
		"p\n":                    "p\n",
		"\n\np\n\n \nd\n\n":      "p\nd\n",
		"  p":                    "p\n",
		"  1,2  !p":              "1,2!p\n",
		"1 p\n 2p\n$  p":         "1p\n2p\n$p\n",
		"  !p":                   "!p\n",
		" /a b/  p":              "/a b/p\n",
		"/ a / p":                "/ a /p\n",
		"/x\\/y/,3 {\n  =\n}":    "/x\\/y/,3{\n=\n}\n",
		"  {\n  {\n  p\n  }\n }": "{\n{\np\n}\n}\n",
	} {
		checkPrinted(t, script, want)
	}
}

// Blanks that must be, or are part of a text, stay; so does how a thing was
// written that could be written otherwise.
func TestP5Kept(t *testing.T) {
	for _, line := range []string{
		"a ", "a  two blanks ", "i   x", "c  ", "b x", "t x", "b", "t", "w out", "s/ a  b / c  d /w out", "y/ a/b /", "/  /p", "/ a/,/b /p", "/a /p",
		"q", "q0", "Q0", "Q", "s/a/b/1", "s/a/b/", "s/a/b/1gpw out", "1,1p", "$,$p", "9999,1p", "/a/,/a/p", "//p", "s///", "y///",
		`s/\(a\{1,1\}\)[a-a]*/\1&\n\&\\\//`, `/\.\[\]\*\^\$\\\/\n/p`, "!p", "a \x00\xff\xc3",
	} {
		checkPrinted(t, "   "+line+"\n:x", line+"\n:x\n")
		checkPrinted(t, ":x\n\n"+line, ":x\n"+line+"\n")
	}
}

func TestP5EveryCommand(t *testing.T) {
	for _, lines := range lineChoices() {
		for _, not := range []string{"", "!"} {
			for _, command := range bareCommands() {
				checkPrinted(t, "\n  "+lines+"  "+not+command+"\n  ", lines+not+command+"\n")
			}
		}
	}
}

func TestP5AnyScript(t *testing.T) {
	r := rand.New(rand.NewSource(5))
	for range 2000 {
		script := someScript(r)
		if e, _ := psed.Check(script); e == psed.OK {
			checkPrinted(t, script, wantOfPrint(script))
		}
	}
}

// A script of the greatest length may have no newline at its end; the line is
// ended by one all the same.
func TestP5LongScripts(t *testing.T) {
	text := "a " + as(997)
	checkPrinted(t, text, text+"\n")
	checkPrinted(t, text+"\n", text+"\n")
	checkPrinted(t, strings.Repeat(" ", 998)+"!p", "!p\n")
	if got, e, place := psed.Print(text + "a"); got != text+"a\n" || e != psed.OK || place != 0 {
		t.Errorf("of a script of 1000 bytes Print writes %d bytes, %d, %d", len(got), e, place)
	}
}

func TestP5Errors(t *testing.T) {
	checkBad(t, psed.ErrLong, badScript{strings.Repeat("p\n", 501), 0})
	checkBad(t, psed.ErrScript, badScript{"p\np p", 3}, badScript{"p\n{\n", 4})
	checkBad(t, psed.ErrLabel, badScript{"p\n  b x", 4}, badScript{"p\n:a\n :a", 6})
}
