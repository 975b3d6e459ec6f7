package psed_test

import (
	"math"
	"math/rand"
	"slices"
	"strings"
	"sync"
	"testing"

	"psed/psed"
)

// Expressions that can be matched in very many ways.
func manyWays() []string {
	return []string{
		strings.Repeat("a*", 29) + "b",
		strings.Repeat(`\(`, 9) + "a*" + strings.Repeat(`\)*`, 9) + "b",
		strings.Repeat(`\(`, 5) + "a*" + strings.Repeat(`\)\{9,\}`, 5) + "b",
		strings.Repeat(`\(`, 5) + "a*" + strings.Repeat(`\)\{0,9\}`, 5) + "b",
		strings.Repeat(`\(`, 5) + strings.Repeat(`\)\{9,\}`, 5),
		strings.Repeat(`\(a*\)*`, 8) + "b$",
		strings.Repeat(`\(a*\)*`, 8) + "$",
	}
}

func TestP1Ends(t *testing.T) {
	text := strings.Repeat("a", 200)
	for _, expr := range manyWays() {
		if _, e, place := psed.Match(expr, text, 0); e != psed.OK || place != 0 {
			t.Errorf("Match(%q, ..) answers %d at %d", expr, e, place)
		}
	}
}

// answers asks Match and holds what it answers against what P1 says of every
// answer.
func answers(t *testing.T, expr, text string, at int) {
	spans, e, place := psed.Match(expr, text, at)
	switch {
	case e != psed.OK && spans != nil,
		e != psed.ErrExpr && place != 0,
		place < 0 || place > len(expr),
		e == psed.OK && spans != nil && (spans[0] < at || spans[1] < spans[0] || spans[1] > len(text)):
		t.Errorf("Match(%q, %q, %d) = %v, %d, %d", expr, text, at, spans, e, place)
	}
}

func TestP1AllArguments(t *testing.T) {
	for _, at := range []int{math.MinInt, -1, 0, 1, 2, math.MaxInt} {
		for _, expr := range []string{"", "a", "*", "\x00", "\xff", strings.Repeat("a", 100000)} {
			for _, text := range []string{"", "a", "\n", "\x00\xff", strings.Repeat("a", 100000)} {
				answers(t, expr, text, at)
			}
		}
	}
	for a := range 256 {
		for b := range 256 {
			answers(t, string([]byte{byte(a), byte(b)}), "a", 0)
		}
	}
	r := rand.New(rand.NewSource(1))
	for range 20000 {
		answers(t, soup(r, 64), soup(r, 12), r.Intn(16)-2)
	}
}

// soup is a text made of what expressions are made of, and of other bytes.
func soup(r *rand.Rand, most int) string {
	words := []string{"a", "b", ".", "*", `\(`, `\)`, `\(`, `\)`, `\{1,\}`, `\{2\}`, `\{0,3\}`, "[a]", "[^b]", "[a-b]", "[", "]", `\`, "^", "$", "/", "\n", "\x00", "\xff"}
	text := ""
	for range r.Intn(12) {
		text += words[r.Intn(len(words))]
	}
	return text[:min(len(text), most)]
}

func TestP1OtherCalls(t *testing.T) {
	for _, text := range []string{"", "p", "\x00\xff", "{", strings.Repeat("\n", 100000)} {
		psed.Check(text)
		psed.Print(text)
		psed.Run(psed.Job{Script: text})
		psed.Run(psed.Job{Script: text, Workers: -1, Buffer: math.MaxInt, Fuel: math.MinInt, Files: make([]psed.File, 100)})
	}
}

func TestP2OnArgumentsAlone(t *testing.T) {
	ask := func() []int {
		spans, _, _ := psed.Match(`\(a\)*\(b*\)`, "xaabb", 1)
		return spans
	}
	want := []int{1, 5, 2, 3, 3, 5}
	first := ask()
	psed.Match(`\(a\)*\(b*\)`, "xabab", 1)
	psed.Match(`\(a\)\(b`, "xaabb", 1)
	second := ask()
	if !slices.Equal(first, want) || !slices.Equal(second, want) {
		t.Errorf("asked twice: %v, %v, want %v", first, second, want)
	}
	for i := range first {
		first[i] = 99
	}
	_ = append(first[:2], 7, 7, 7)
	if third := ask(); !slices.Equal(second, want) || !slices.Equal(third, want) {
		t.Errorf("one answer changes another: %v, %v, want %v", second, third, want)
	}
}

func TestP2AtTheSameTime(t *testing.T) {
	texts := []string{"ab", "aabb", "b", "", "abab", "bbaa"}
	want := make([][]int, len(texts))
	for i, text := range texts {
		want[i], _, _ = psed.Match(`\(a*\)\(b\)*`, text, 0)
	}
	var all sync.WaitGroup
	for i, text := range texts {
		all.Go(func() {
			for range 200 {
				if got, e, _ := psed.Match(`\(a*\)\(b\)*`, text, 0); e != psed.OK || !slices.Equal(got, want[i]) {
					t.Errorf("Match in %q = %v, %d, want %v", text, got, e, want[i])
				}
				if _, e, place := psed.Match(`\(a*\)\(b\)**`, text, 0); e != psed.ErrExpr || place != 12 {
					t.Errorf("a refusal beside others: %d, %d", e, place)
				}
			}
		})
	}
	all.Wait()
}
