package psed_test

import (
	"math"
	"math/rand"
	"slices"
	"strings"
	"sync"
	"testing"

	"psed/psed"
)

// Expressions that can be matched in very many ways.
func manyWays() []string {
	return []string{
		strings.Repeat("a*", 29) + "b",
		strings.Repeat(`\(`, 9) + "a*" + strings.Repeat(`\)*`, 9) + "b",
		strings.Repeat(`\(`, 5) + "a*" + strings.Repeat(`\)\{9,\}`, 5) + "b",
		strings.Repeat(`\(`, 5) + "a*" + strings.Repeat(`\)\{0,9\}`, 5) + "b",
		strings.Repeat(`\(`, 5) + strings.Repeat(`\)\{9,\}`, 5),
		strings.Repeat(`\(a*\)*`, 8) + "b$",
		strings.Repeat(`\(a*\)*`, 8) + "$",
	}
}

func TestP1Ends(t *testing.T) {
	text := strings.Repeat("a", 200)
	for _, expr := range manyWays() {
		if _, e, place := psed.Match(expr, text, 0); e != psed.OK || place != 0 {
			t.Errorf("Match(%q, ..) answers %d at %d", expr, e, place)
		}
	}
}

// answers asks Match and holds what it answers against what P1 says of every
// answer.
func answers(t *testing.T, expr, text string, at int) {
	spans, e, place := psed.Match(expr, text, at)
	switch {
	case e != psed.OK && spans != nil,
		e != psed.ErrExpr && place != 0,
		place < 0 || place > len(expr),
		e == psed.OK && spans != nil && (spans[0] < at || spans[1] < spans[0] || spans[1] > len(text)):
		t.Errorf("Match(%q, %q, %d) = %v, %d, %d", expr, text, at, spans, e, place)
	}
}

func TestP1AllArguments(t *testing.T) {
	for _, at := range []int{math.MinInt, -1, 0, 1, 2, math.MaxInt} {
		for _, expr := range []string{"", "a", "*", "\x00", "\xff", strings.Repeat("a", 100000)} {
			for _, text := range []string{"", "a", "\n", "\x00\xff", strings.Repeat("a", 100000)} {
				answers(t, expr, text, at)
			}
		}
	}
	for a := range 256 {
		for b := range 256 {
			answers(t, string([]byte{byte(a), byte(b)}), "a", 0)
		}
	}
	r := rand.New(rand.NewSource(1))
	for range 20000 {
		answers(t, soup(r, 64), soup(r, 12), r.Intn(16)-2)
	}
}

// soup is a text made of what expressions are made of, and of other bytes.
func soup(r *rand.Rand, most int) string {
	words := []string{"a", "b", ".", "*", `\(`, `\)`, `\(`, `\)`, `\{1,\}`, `\{2\}`, `\{0,3\}`, "[a]", "[^b]", "[a-b]", "[", "]", `\`, "^", "$", "/", "\n", "\x00", "\xff"}
	text := ""
	for range r.Intn(12) {
		text += words[r.Intn(len(words))]
	}
	return text[:min(len(text), most)]
}

// answersScript asks Check and Print and holds what they answer against what P1
// says of every answer.
func answersScript(t *testing.T, script string) {
	t.Helper()
	e, place := psed.Check(script)
	text, again, samePlace := psed.Print(script)
	switch {
	case e != psed.OK && e != psed.ErrLong && e != psed.ErrScript && e != psed.ErrLabel,
		(e == psed.OK || e == psed.ErrLong) && place != 0,
		place < 0 || place > len(script),
		again != e || samePlace != place,
		e != psed.OK && text != "":
		t.Errorf("Check(%.80q) = %d, %d, Print: %.80q, %d, %d", script, e, place, text, again, samePlace)
	}
}

func TestP1Scripts(t *testing.T) {
	for _, script := range []string{
		"\x00\xff", strings.Repeat("{", 1000), strings.Repeat("{\n", 500), strings.Repeat("/", 1000), "s/" + strings.Repeat(`\(`, 499), "y/" + strings.Repeat("\n", 998),
		strings.Repeat("1,", 500), strings.Repeat("!", 1000), strings.Repeat(":a\n", 333), strings.Repeat("\n", 100000), strings.Repeat("p", 100000),
	} {
		answersScript(t, script)
	}
	for a := range 256 {
		for _, before := range []string{"", "1", "1,", "/", "s/", "s/a/", "s/a/\\", "s/a/b/", "y/", "y/a/", "a", "{\n", "b", "b ", ":", "q"} {
			for _, behind := range []string{"", "/", " ", "\n}", "\xff"} {
				answersScript(t, before+string([]byte{byte(a)})+behind)
			}
		}
	}
	r := rand.New(rand.NewSource(2))
	for range 20000 {
		answersScript(t, scriptSoup(r))
	}
}

// scriptSoup is a text made of what scripts are made of, and of other bytes.
func scriptSoup(r *rand.Rand) string {
	words := []string{"1", "$", "/a/", "/", ",", " ", "!", "{\n", "}", "\n", "\n", "\n", ":a", "b a", "t", "p", "d", "a ", "s/a/b/", `s/\(a\)/\1/`, "g", "w a", "y/a/b/", "q1", `\`, "\x00", "\xff"}
	text := ""
	for range r.Intn(12) {
		text += words[r.Intn(len(words))]
	}
	return text
}

func TestP1Runs(t *testing.T) {
	for _, text := range []string{"", "p", "\x00\xff", "{", strings.Repeat("\n", 100000)} {
		psed.Run(psed.Job{Script: text})
		psed.Run(psed.Job{Script: text, Workers: -1, Buffer: math.MaxInt, Fuel: math.MinInt, Files: make([]psed.File, 100)})
	}
}

func TestP2OnArgumentsAlone(t *testing.T) {
	ask := func() []int {
		spans, _, _ := psed.Match(`\(a\)*\(b*\)`, "xaabb", 1)
		return spans
	}
	want := []int{1, 5, 2, 3, 3, 5}
	first := ask()
	psed.Match(`\(a\)*\(b*\)`, "xabab", 1)
	psed.Match(`\(a\)\(b`, "xaabb", 1)
	second := ask()
	if !slices.Equal(first, want) || !slices.Equal(second, want) {
		t.Errorf("asked twice: %v, %v, want %v", first, second, want)
	}
	for i := range first {
		first[i] = 99
	}
	_ = append(first[:2], 7, 7, 7)
	if third := ask(); !slices.Equal(second, want) || !slices.Equal(third, want) {
		t.Errorf("one answer changes another: %v, %v, want %v", second, third, want)
	}
}

func TestP2AtTheSameTime(t *testing.T) {
	texts := []string{"ab", "aabb", "b", "", "abab", "bbaa"}
	want := make([][]int, len(texts))
	for i, text := range texts {
		want[i], _, _ = psed.Match(`\(a*\)\(b\)*`, text, 0)
	}
	var all sync.WaitGroup
	for i, text := range texts {
		all.Go(func() {
			for range 200 {
				if got, e, _ := psed.Match(`\(a*\)\(b\)*`, text, 0); e != psed.OK || !slices.Equal(got, want[i]) {
					t.Errorf("Match in %q = %v, %d, want %v", text, got, e, want[i])
				}
				if _, e, place := psed.Match(`\(a*\)\(b\)**`, text, 0); e != psed.ErrExpr || place != 12 {
					t.Errorf("a refusal beside others: %d, %d", e, place)
				}
			}
		})
	}
	all.Wait()
}

func TestP2Scripts(t *testing.T) {
	ask := func(script, want string, e psed.Errno, place int) {
		if got, at := psed.Check(script); got != e || at != place {
			t.Errorf("Check(%q) = %d, %d, want %d, %d", script, got, at, e, place)
		}
		if text, got, at := psed.Print(script); text != want || got != e || at != place {
			t.Errorf("Print(%q) = %q, %d, %d, want %q, %d, %d", script, text, got, at, want, e, place)
		}
	}
	var all sync.WaitGroup
	for range 4 {
		all.Go(func() {
			for range 100 {
				ask(" b a\n :a", "b a\n:a\n", psed.OK, 0)
				ask("b a", "", psed.ErrLabel, 0)
				ask(" {\n :b\n", "", psed.ErrScript, 7)
				ask(":a\n :b", ":a\n:b\n", psed.OK, 0)
				ask("}", "", psed.ErrScript, 0)
				ask(` s/\(a\)/\1/`, "s/\\(a\\)/\\1/\n", psed.OK, 0)
				ask(`s/a/\1/`, "", psed.ErrScript, 5)
			}
		})
	}
	all.Wait()
}

func TestErrnos(t *testing.T) {
	want := []psed.Errno{0, 1, 2, 3, 4, 5}
	got := []psed.Errno{psed.OK, psed.ErrLong, psed.ErrExpr, psed.ErrScript, psed.ErrLabel, psed.ErrRange}
	if !slices.Equal(got, want) {
		t.Errorf("the errors are %d, want %d", got, want)
	}
}
