package psed_test

import (
	"slices"
	"strings"
	"testing"

	"psed/psed"
)

// found is a case in which Match answers no error.
type found struct {
	expr, text string
	at         int
	want       []int
}

func checkFound(t *testing.T, cases []found) {
	t.Helper()
	for _, c := range cases {
		got, e, place := psed.Match(c.expr, c.text, c.at)
		if e != psed.OK || place != 0 || !slices.Equal(got, c.want) || (got == nil) != (c.want == nil) {
			t.Errorf("Match(%q, %q, %d) = %v, %d, %d, want %v", c.expr, c.text, c.at, got, e, place, c.want)
		}
	}
}

// refused is a case in which Match answers an error.
type refused struct {
	expr, text string
	at         int
	want       psed.Errno
	place      int
}

func checkRefused(t *testing.T, cases []refused) {
	t.Helper()
	for _, c := range cases {
		got, e, place := psed.Match(c.expr, c.text, c.at)
		if got != nil || e != c.want || place != c.place {
			t.Errorf("Match(%q, %q, %d) = %v, %d, %d, want nil, %d, %d", c.expr, c.text, c.at, got, e, place, c.want, c.place)
		}
	}
}

func checkPlaces(t *testing.T, places map[string]int) {
	t.Helper()
	for expr, place := range places {
		checkRefused(t, []refused{{expr, "a", 0, psed.ErrExpr, place}})
	}
}

func TestP3Atoms(t *testing.T) {
	checkFound(t, []found{
		{"a", "a", 0, []int{0, 1}},
		{"a", "b", 0, nil},
		{"a", "", 0, nil},
		{"ab", "aab", 0, []int{1, 3}},
		{".", "\x00", 0, []int{0, 1}},
		{".", "\xff", 0, []int{0, 1}},
		{".", "\n", 0, []int{0, 1}},
		{".", "", 0, nil},
		{"\x00", "a\x00", 0, []int{1, 2}},
		{"\xff", "\xfe\xff", 0, []int{1, 2}},
		{"é", "aé", 0, []int{1, 3}},
		{"(){}|+?&,-]", "(){}|+?&,-]", 0, []int{0, 11}},
		{`\.\[\]\*\^\$\\\/\n`, ".[]*^$\\/\n", 0, []int{0, 9}},
		{`\.`, "a", 0, nil},
		{`\n`, "n\n", 0, []int{1, 2}},
	})
}

func TestP3Classes(t *testing.T) {
	checkFound(t, []found{
		{"[abc]", "xb", 0, []int{1, 2}},
		{"[abc]", "x", 0, nil},
		{"[a]", "", 0, nil},
		{"[^a]", "", 0, nil},
		{"[^abc]", "abcd", 0, []int{3, 4}},
		{"[^abc]", "abc\n", 0, []int{3, 4}},
		{"[^^]", "^a", 0, []int{1, 2}},
		{"[a^]", "^", 0, []int{0, 1}},
		{"[b-d]", "abcde", 0, []int{1, 2}},
		{"[b-d]*", "bcda", 0, []int{0, 3}},
		{"[b-d]", "ae", 0, nil},
		{"[b-b]", "ab", 0, []int{1, 2}},
		{"[b-dx]", "ax", 0, []int{1, 2}},
		{"[xb-d0-9]", "a7", 0, []int{1, 2}},
		{"[^b-d]", "bcda", 0, []int{3, 4}},
		{"[\x80-\xff]", "\x7f\xff", 0, []int{1, 2}},
		{"[\x00-\xff]*", "\x00\n\x7f\x80\xff", 0, []int{0, 5}},
		{"[.*$[(){},]*", ".*$[(){},a", 0, []int{0, 9}},
	})
}

func TestP3Bounds(t *testing.T) {
	checkFound(t, []found{
		{"", "", 0, []int{0, 0}},
		{"", "ab", 1, []int{1, 1}},
		{"", "ab", 2, []int{2, 2}},
		{"^", "ab", 0, []int{0, 0}},
		{"^", "ab", 1, nil},
		{"$", "ab", 0, []int{2, 2}},
		{"$", "ab", 2, []int{2, 2}},
		{"^$", "", 0, []int{0, 0}},
		{"^$", "a", 0, nil},
		{"^$", "a", 1, nil},
		{"^a", "aa", 0, []int{0, 1}},
		{"^a", "aa", 1, nil},
		{"^a", "ba", 0, nil},
		{"^a", "b\na", 0, nil},
		{"a$", "aab", 0, nil},
		{"a$", "aa", 0, []int{1, 2}},
		{"a$", "a\nb", 0, nil},
		{"^a*$", "aaa", 0, []int{0, 3}},
		{"^a*$", "aab", 0, nil},
		{"a", "aba", 1, []int{2, 3}},
		{"a", "aba", 3, nil},
		{"a*$", "aba", 0, []int{2, 3}},
	})
}

func TestP3Counts(t *testing.T) {
	checkFound(t, []found{
		{"a*", "aaab", 0, []int{0, 3}},
		{"a*", "b", 0, []int{0, 0}},
		{"ba*", "abaa", 0, []int{1, 4}},
		{`a\{2\}`, "aaa", 0, []int{0, 2}},
		{`a\{2\}`, "abaa", 0, []int{2, 4}},
		{`a\{2\}`, "aba", 0, nil},
		{`a\{0\}`, "a", 0, []int{0, 0}},
		{`ba\{0\}`, "ba", 0, []int{0, 1}},
		{`a\{0,0\}b`, "ab", 0, []int{1, 2}},
		{`a\{0,\}`, "aa", 0, []int{0, 2}},
		{`a\{2,\}`, "abaaaa", 0, []int{2, 6}},
		{`a\{1,3\}`, "aaaa", 0, []int{0, 3}},
		{`a\{3,3\}`, "aaaa", 0, []int{0, 3}},
		{`a\{9\}`, strings.Repeat("a", 8), 0, nil},
		{`a\{9\}`, strings.Repeat("a", 9), 0, []int{0, 9}},
		{`a\{0,9\}`, strings.Repeat("a", 10), 0, []int{0, 9}},
		{`a\{9,\}`, strings.Repeat("a", 10), 0, []int{0, 10}},
		{`.\{2\}[b-d]*\n\{1,2\}`, "aabcd\n\n\n", 0, []int{0, 7}},
		{`\.*`, "...", 0, []int{0, 3}},
	})
}

func TestP3EmptyCopies(t *testing.T) {
	checkFound(t, []found{
		{`\(\)`, "a", 0, []int{0, 0, 0, 0}},
		{`\(\)*`, "a", 0, []int{0, 0, -1, -1}},
		{`\(\)\{1,\}`, "a", 1, []int{1, 1, 1, 1}},
		{`\(\)\{9\}`, "", 0, []int{0, 0, 0, 0}},
		{`\(a*\)*`, "b", 0, []int{0, 0, -1, -1}},
		{`\(a*\)\{1,\}`, "b", 0, []int{0, 0, 0, 0}},
		{`\(a*\)*`, "aa", 0, []int{0, 2, 0, 2}},
		{`\(a*\)\{1,3\}`, "aa", 0, []int{0, 2, 0, 2}},
		{`\(a*\)\{2\}`, "aa", 0, []int{0, 2, 2, 2}},
		{`\(a*\)\{3,\}b`, "aab", 0, []int{0, 3, 2, 2}},
		{`\(a\{0,1\}\)\{0,9\}`, "aa", 0, []int{0, 2, 1, 2}},
		{`\(a\{0,1\}\)\{3\}`, "aa", 0, []int{0, 2, 2, 2}},
		{`\(a\{0,1\}\)\{1\}`, "aa", 0, []int{0, 1, 0, 1}},
	})
}

func TestP3Groups(t *testing.T) {
	checkFound(t, []found{
		{`\(a\)\(b\)`, "xab", 0, []int{1, 3, 1, 2, 2, 3}},
		{`\(a\(b\)\)`, "ab", 0, []int{0, 2, 0, 2, 1, 2}},
		{`\(a\)\{0\}b`, "ab", 0, []int{1, 2, -1, -1}},
		{`\(\(a\)\{0\}\)b`, "ab", 0, []int{1, 2, 1, 1, -1, -1}},
		{`\(\(a\)b\)*c`, "c", 0, []int{0, 1, -1, -1, -1, -1}},
		{`\(\(a\)*b\)*`, "aabb", 0, []int{0, 4, 3, 4, -1, -1}},
		{`\(\(a\)*b\)*`, "baab", 0, []int{0, 4, 1, 4, 2, 3}},
		{`\(\(a*\)b\)*`, "abb", 0, []int{0, 3, 2, 3, 2, 2}},
		{`\(\(\(a\)*b\)*c\)*`, "abcc", 0, []int{0, 4, 3, 4, -1, -1, -1, -1}},
		{`\(\(\(\(\(\(\(\(\(a\)\)\)\)\)\)\)\)\)`, "xa", 0, append([]int{1, 2}, slices.Repeat([]int{1, 2}, 9)...)},
		{strings.Repeat(`\(\)`, 9), "", 0, make([]int, 20)},
		{`\(a\)$`, "aa", 0, []int{1, 2, 1, 2}},
	})
}

func TestP3Best(t *testing.T) {
	checkFound(t, []found{
		// the greatest end goes ahead of a long first part
		{`a*\(ab\)*`, "aab", 0, []int{0, 3, 1, 3}},
		{`\(a\{0,1\}\)\(ab\)\{0,1\}`, "ab", 0, []int{0, 2, 0, 0, 0, 2}},
		// the first part is as long as the end allows, then the second
		{`\(a*\)\(a\)\{0,1\}\(a*\)`, "aa", 0, []int{0, 2, 0, 2, -1, -1, 2, 2}},
		{`\(a*\)\(ab\)*\(b*\)`, "abb", 0, []int{0, 3, 0, 1, -1, -1, 1, 3}},
		{`\(.*\)a\(.*\)`, "xaxax", 0, []int{0, 5, 0, 3, 4, 5}},
		// a long part goes ahead of its long first copy, that one ahead of its second
		{`\(a\{1,2\}\)*a`, "aaaa", 0, []int{0, 4, 2, 3}},
		{`\(a\{2,3\}\)*$`, "aaaa", 0, []int{0, 4, 2, 4}},
		{`\(a\{2,3\}\)\{2\}$`, "aaaaa", 0, []int{0, 5, 3, 5}},
		// within a copy likewise
		{`\(\(a*\)\(a*\)b\)*`, "baab", 0, []int{0, 4, 1, 4, 1, 3, 3, 3}},
		{`\(\(a\{0,1\}\)\(ab\)\{0,1\}\)`, "ab", 0, []int{0, 2, 0, 2, 0, 0, 0, 2}},
		// the lowest place goes ahead of the longest match
		{"a*", "baaa", 0, []int{0, 0}},
		{"ab*", "xaabb", 0, []int{1, 2}},
	})
}

func TestP3Refusals(t *testing.T) {
	checkPlaces(t, map[string]int{
		"*": 0, "^*": 1, "a**": 2, "/": 0, "a/b": 1, "\n": 0, "a^": 1, "^^": 1,
		"$a": 1, "$$": 1, "a$*": 2, `a$\`: 2, "$^": 1,
		`\`: 1, `a\`: 2, `\a`: 1, `\-`: 1, `\&`: 1, `\0`: 1, `\1`: 1, `\` + "\n": 1, `\\\`: 3, `\\*\`: 4,
		`\{`: 1, `^\{1\}`: 2, `\}`: 1, `a*\{1\}`: 3, `a\{1\}*`: 6, `a\{1\}\{1\}`: 7, `\(\{1\}\)`: 3, `\(*\)`: 2,
	})
}

func TestP3RefusedClasses(t *testing.T) {
	checkPlaces(t, map[string]int{
		"[": 1, "[^": 2, "[]": 1, "[]a]": 1, "[^]": 2, "[^]a]": 2, "[a": 2, "[^a": 3, "[a-": 3,
		"[-": 1, "[-a]": 1, "[^-a]": 2, "[a-]": 3, "[a--]": 3, "[a-c-e]": 4, "[a-c": 4, "[ab-a]": 4,
		"[a/]": 2, "[/": 1, "[a-/]": 3, `[\]`: 1, `[a\]`: 2, `[a-\]`: 3, `[\n]`: 1, "[a\n]": 2, "[\n": 1, "[a-\n]": 3,
		"[\xff-\x80]": 3, "[a]]*b**": 7,
	})
}

func TestP3RefusedCounts(t *testing.T) {
	checkPlaces(t, map[string]int{
		`a\{`: 3, `a\{\}`: 3, `a\{,`: 3, `a\{,1\}`: 3, `a\{x\}`: 3, `a\{1`: 4, `a\{1}`: 4, `a\{12\}`: 4, `a\{1x`: 4,
		`a\{1\`: 5, `a\{1\x`: 5, `a\{1\{`: 5, `a\{1,`: 5, `a\{1,}`: 5, `a\{1,x\}`: 5, `a\{1,,`: 5, `a\{2,1\}`: 5, `a\{9,8`: 5,
		`a\{1,\`: 6, `a\{1,\x`: 6, `a\{1,2`: 6, `a\{1,23\}`: 6, `a\{1,2}`: 6, `a\{1,2,`: 6, `a\{1,2\`: 7, `a\{1,2\)`: 7,
	})
}

func TestP3RefusedGroups(t *testing.T) {
	checkPlaces(t, map[string]int{
		`\(`: 2, `\(a`: 3, `\(a\`: 4, `\(a\(b\)`: 8, `\)`: 1, `a\)`: 2, `\(a\)\)`: 6, `\(a)`: 4,
		`\(^a\)`: 2, `\(a^\)`: 3, `\(a$\)`: 3, `\($`: 2, `\(/\)`: 2, "\\(\n": 2, `\(a**\)`: 4, `\([a\)`: 4, `\(a\{1\)`: 7,
		strings.Repeat(`\(\)`, 9) + `\(`:     37,
		strings.Repeat(`\(\)`, 9) + `a\(a\)`: 38,
		strings.Repeat(`\(`, 10):             19,
		strings.Repeat(`\(`, 9):              18,
		strings.Repeat(`\(\)`, 9) + `\)`:     37,
	})
}

func TestP3Limits(t *testing.T) {
	a := strings.Repeat("a", 300)
	checkFound(t, []found{
		{a[:60], a[:200], 140, []int{140, 200}},
		{a[:60], a[:200], 141, nil},
		{".*", a[:200], 0, []int{0, 200}},
		{"", a[:200], 200, []int{200, 200}},
	})
	checkRefused(t, []refused{
		{a[:61], "", 0, psed.ErrLong, 0},
		{"", a[:201], 0, psed.ErrLong, 0},
		{a[:61], a[:201], 0, psed.ErrLong, 0},
		{a[:59] + `\`, "", 0, psed.ErrExpr, 60},
		{a[:59] + "/", a[:200], 0, psed.ErrExpr, 59},
		{"", a[:200], 201, psed.ErrRange, 0},
		{"", a[:200], -1, psed.ErrRange, 0},
		{"", "", 1, psed.ErrRange, 0},
		{"b", "a", 2, psed.ErrRange, 0},
	})
}

func TestP1FirstError(t *testing.T) {
	a := strings.Repeat("a", 201)
	checkRefused(t, []refused{
		{"*" + a[:60], "", 5, psed.ErrLong, 0},
		{"*", a, 0, psed.ErrLong, 0},
		{"a*", a, -1, psed.ErrLong, 0},
		{"*", a, 999, psed.ErrLong, 0},
		{"a**", "a", 2, psed.ErrExpr, 2},
		{`\(`, "", -1, psed.ErrExpr, 2},
	})
}
