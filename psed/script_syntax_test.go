package psed_test

import (
	"math/rand"
	"regexp"
	"slices"
	"sort"
	"strings"
	"testing"

	"psed/psed"
)

// Which texts are scripts, said line by line by a regular expression; and at
// which place one fails: at the first at which no text that begins so is a
// script.

const (
	exprWords    = `((?:[^\\/\n]|\\[^\n])*)`
	addressWords = `(?:[1-9][0-9]{0,3}|\$|/` + exprWords + `/)`
	linesWords   = ` *(` + addressWords + `(?:,` + addressWords + `)?)? *(!?)`
)

// lineForm has these groups: the addresses with their expressions (1 to 3), the
// ! (4), the command (5), then of s the expression and the replacement (6, 7),
// and of y its bytes (8, 9).
var lineForm = regexp.MustCompile(`\A` + linesWords + `([=dDgGhHxnNpP{}]|:[a-z]{1,8}|[bt](?: [a-z]{1,8})?|[aic] [^\n]*|[qQ][0-9]?|w [a-z]{1,8}` +
	`|s/` + exprWords + `/((?:[^\\/\n]|\\[1-9n&\\/])*)/[1-9]?g?p?(?:w [a-z]{1,8})?` +
	`|y/([^/\\\n]*)/([^/\\\n]*)/)\z`)

// commandLines answers the groups of lineForm for each line that is a command,
// and how many blocks are open at the end; ok: the text is a script, but for
// these blocks and for labels. (MaxCmds and MaxNest are not looked at.)
func commandLines(text string) (lines [][]string, open int, ok bool) {
	for _, line := range strings.Split(text, "\n") {
		if strings.Trim(line, " ") == "" {
			continue
		}
		words := lineForm.FindStringSubmatch(line)
		if words == nil || !wordsFit(words) {
			return nil, 0, false
		}
		if words[5] == "{" {
			open++
		} else if words[5] == "}" {
			open--
		}
		if open < 0 {
			return nil, 0, false
		}
		lines = append(lines, words)
	}
	return lines, open, true
}

// wordsFit tells whether what lineForm found is a command.
func wordsFit(words []string) bool {
	for _, expr := range []string{words[2], words[3], words[6]} {
		if _, e, _ := psed.Match(expr, "", 0); e != psed.OK {
			return false
		}
	}
	if (words[5] == "}" || words[5][0] == ':') && words[1]+words[4] != "" {
		return false
	}
	for i, number := range strings.Split(strings.ReplaceAll(words[7], `\\`, ""), `\`) {
		if i > 0 && number[0] <= '9' && number[0] >= '1' && int(number[0]-'0') > strings.Count(strings.ReplaceAll(words[6], `\\`, ""), `\(`) {
			return false
		}
	}
	from := []byte(words[8])
	slices.Sort(from)
	return len(words[8]) == len(words[9]) && len(slices.Compact(from)) == len(words[8])
}

func isScript(text string) bool {
	_, open, ok := commandLines(text)
	return ok && open == 0
}

// scriptGoesOn tells whether some script begins with the text: what is begun is
// ended in one of these ways.
func scriptGoesOn(text string) bool {
	line := text[strings.LastIndexByte(text, '\n')+1:]
	for _, ending := range lineEndings(line) {
		if _, _, ok := commandLines(text + ending); ok {
			return true
		}
	}
	return false
}

func lineEndings(line string) []string {
	all := []string{"", "p", "1p", " a", "a", "///"}
	for _, ending := range []string{"", ".", "]", "~]", `\}`, `9\}`, "}"} {
		for groups := range strings.Count(line, `\(`) + 1 {
			expr := ending + strings.Repeat(`\)`, groups)
			all = append(all, expr+"/p", expr+"//", expr+`\//p`, expr+`\///`)
		}
	}
	for _, bytes := range []string{"", "h", "hi", "hij", "hijk", "n", "&"} {
		all = append(all, bytes+"/", "/"+bytes+"/")
	}
	return all
}

// wantOfCheck is what Check should answer.
func wantOfCheck(text string) (psed.Errno, int) {
	if isScript(text) {
		return wantOfLabels(text)
	}
	place := sort.Search(len(text), func(n int) bool { return !scriptGoesOn(text[:n+1]) })
	return psed.ErrScript, place
}

// wantOfLabels is what Check should answer about a text that is a script.
func wantOfLabels(text string) (psed.Errno, int) {
	at := 0
	var seen []string
	for line := range strings.Lines(text) {
		words := lineForm.FindStringSubmatch(strings.TrimSuffix(line, "\n"))
		if words != nil {
			letter, label, _ := strings.Cut(words[5], " ")
			place := at + len(strings.TrimSuffix(line, "\n")) - len(words[5])
			if letter[0] == ':' && slices.Contains(seen, letter) {
				return psed.ErrLabel, place
			}
			if (letter == "b" || letter == "t") && label != "" && !regexp.MustCompile(`(?m)^ *:`+label+`$`).MatchString(text) {
				return psed.ErrLabel, place
			}
			seen = append(seen, letter)
		}
		at += len(line)
	}
	return psed.OK, 0
}

// wantOfPrint is what Print should write of a script.
func wantOfPrint(text string) string {
	lines, _, _ := commandLines(text)
	plain := ""
	for _, words := range lines {
		plain += words[1] + words[4] + words[5] + "\n"
	}
	return plain
}

// holdScript holds Check and Print against what is said here.
func holdScript(t *testing.T, text string) {
	t.Helper()
	want, at := wantOfCheck(text)
	if e, place := psed.Check(text); e != want || place != at {
		t.Errorf("Check(%q) = %d, %d, want %d, %d", text, e, place, want, at)
	}
	wantText := ""
	if want == psed.OK {
		wantText = wantOfPrint(text)
	}
	if got, e, place := psed.Print(text); got != wantText || e != want || place != at {
		t.Errorf("Print(%q) = %q, %d, %d, want %q, %d, %d", text, got, e, place, wantText, want, at)
	}
}

// tryScripts holds all texts that begin with a text with which a script can
// begin, and are at most that much longer.
func tryScripts(t *testing.T, text string, longer int) {
	holdScript(t, text)
	if longer == 0 {
		return
	}
	const bytes = "p10$/,! {}:ba=wqsygA2&*\\n(\n\xff"
	for i := range len(bytes) {
		next := text + bytes[i:i+1]
		if scriptGoesOn(next) {
			tryScripts(t, next, longer-1)
		} else {
			checkBad(t, psed.ErrScript, badScript{next, len(text)}, badScript{next + "p", len(text)}, badScript{next + "\np", len(text)})
		}
	}
}

func TestP4Syntax(t *testing.T) {
	for _, begin := range []string{
		"", "1", "1,", "1,2", "1234", "$,", " 1 ", "!", "/", "/a", `/\(`, `/\(a`, "/a/", "/a/,", "1,/a", "p\n", "{", "{\n", "{\n}", "{\np\n1",
		":", ":a", ":abcdefgh", ":a\n", "b", "b ", "b a", "t a\n:", "a", "a ", "i x", "q", "q1", "w", "w ", "w abcdefgh",
		"s", "s/", "s/a", `s/\(a\)`, "s/a/", `s/a/\`, `s/\(a\)/`, `s/\(a\)/\`, "s/a/b", "s/a/b/", "s/a/b/1", "s/a/b/g", "s/a/b/p", "s/a/b/w", "s/a/b/w a",
		"y", "y/", "y/a", "y/ab", "y/a/", "y/ab/", "y/ab/a", "y/a/b/", "y//",
	} {
		tryScripts(t, begin, 2)
	}
}

// someScript is a script of a few commands, with blanks and empty lines where
// they may stand; some of its labels may be wrong.
func someScript(r *rand.Rand) string {
	one := func(of []string) string { return of[r.Intn(len(of))] }
	blanks := []string{"", "", " ", "  "}
	text, open := "", 0
	for range r.Intn(8) {
		switch r.Intn(6) {
		case 0:
			text += one(blanks) + one(lineChoices()) + one(blanks) + one([]string{"", "!"}) + "{\n"
			open++
		case 1:
			text += one([]string{"\n", " \n", ":a\n", " :b\n", ":c\n"})
		case 2:
			text += one(blanks) + one(lineChoices()) + one([]string{"b a\n", "t a\n", "b b\n", "t\n"})
		default:
			text += one(blanks) + one(lineChoices()) + one(blanks) + one([]string{"", "!"}) + one(bareCommands()) + "\n"
		}
		if open > 0 && r.Intn(3) == 0 {
			text += one(blanks) + "}\n"
			open--
		}
	}
	text += strings.Repeat("}\n", open)
	return text[:len(text)-min(len(text), r.Intn(2))]
}

// changed is the text with one byte more, less, or another.
func changed(r *rand.Rand, text string) string {
	const bytes = "p10$/,! {}:ba=wqsygA2&*\\n()\n\xff"
	at, i := r.Intn(len(text)+1), r.Intn(len(bytes))
	b, rest := bytes[i:i+1], text[at:]
	if kind := r.Intn(3); kind > 0 && rest != "" {
		rest = rest[1:]
		if kind == 2 {
			b = ""
		}
	}
	return text[:at] + b + rest
}

func TestP4AnyScript(t *testing.T) {
	r := rand.New(rand.NewSource(4))
	for range 2000 {
		text := someScript(r)
		if !isScript(text) {
			t.Fatalf("%q is no script", text)
		}
		holdScript(t, text)
		for range 2 {
			text = changed(r, text)
			holdScript(t, text)
		}
	}
}
