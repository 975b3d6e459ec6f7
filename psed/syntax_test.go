package psed_test

import (
	"regexp"
	"strings"
	"testing"

	"psed/psed"
)

// Which texts are expressions, said by a regular expression over a few bytes
// that stand for all; and at which place one fails: at the first at which no
// text that begins so is an expression.

const syntaxBytes = "a\\(){}[]^$*-12,./n\n"

// grammar is the regular expression for expressions with groups up to a depth.
func grammar(depth int) *regexp.Regexp {
	first, item := classItems()
	class := `\[(?:\^(?:` + item + `)|(?:` + first + `))(?:` + item + `)*\]`
	atom := `[^\\\[*./^$\n]|\.|\\[.\[\]*^$\\/n]|` + class
	count := `(?:\*|\\\{(?:[129]|[129],|1,[129]|2,[29]|9,9)\\\})?`
	part := `(?:` + atom + `)` + count
	for range depth {
		part = `(?:` + atom + `|\\\((?:` + part + `)*\\\))` + count
	}
	return regexp.MustCompile(`\A\^?(?:` + part + `)*\$?\z`)
}

// classItems answers the items that may stand first between brackets (there ^
// is none), and those that may stand behind.
func classItems() (first, item string) {
	var firsts, items []string
	const bytes = "a(){}[^$*12,.n~"
	for _, low := range bytes {
		all := []string{regexp.QuoteMeta(string(low))}
		for _, high := range bytes {
			if low <= high {
				all = append(all, regexp.QuoteMeta(string(low)+"-"+string(high)))
			}
		}
		items = append(items, all...)
		if low != '^' {
			firsts = append(firsts, all...)
		}
	}
	return strings.Join(firsts, "|"), strings.Join(items, "|")
}

// goesOn tells whether some expression begins with the text: what is begun is
// ended in one of these ways.
func goesOn(valid *regexp.Regexp, text string) bool {
	for _, ending := range []string{"", ".", "]", "~]", `\}`, `9\}`, "}"} {
		for groups := range strings.Count(text, `\(`) + 1 {
			if valid.MatchString(text + ending + strings.Repeat(`\)`, groups)) {
				return true
			}
		}
	}
	return false
}

// tryAll holds Match against the grammar at all texts that begin with a text
// with which an expression can begin, and are at most that much longer.
func tryAll(t *testing.T, valid *regexp.Regexp, text string, longer int) {
	want, place := psed.OK, 0
	if !valid.MatchString(text) {
		want, place = psed.ErrExpr, len(text)
	}
	if _, e, at := psed.Match(text, "", 0); e != want || at != place {
		t.Errorf("Match(%q) answers %d at %d, want %d at %d", text, e, at, want, place)
	}
	if longer == 0 {
		return
	}
	for i := range syntaxBytes {
		next := text + syntaxBytes[i:i+1]
		if goesOn(valid, next) {
			tryAll(t, valid, next, longer-1)
			continue
		}
		for _, rest := range []string{"", "a", `\)`, "]", "}"} {
			checkRefused(t, []refused{{next + rest, "", 0, psed.ErrExpr, len(text)}})
		}
	}
}

func TestP3Syntax(t *testing.T) {
	valid := grammar(4)
	tryAll(t, valid, "", 4)
	for _, begin := range []string{
		"a*", "^a", `\(a`, `\(\(`, `\(a\)`, `\(\(\)`, `a\{1\}`, `a\{`, `a\{2`, `a\{1,`, `\(a\{2,`, `a\{1,2`,
		"[a", "[^a", "[a-", "[1-a", "[^1-", `\([a`, "[a]", "a$", `\(a\)*`, `[a]\{1`,
	} {
		tryAll(t, valid, begin, 3)
	}
}
