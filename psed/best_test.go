package psed_test

import (
	"cmp"
	"math/rand"
	"slices"
	"strings"
	"testing"

	"psed/psed"
)

// The best match, found by the document's own words: all matches are made, and
// held against each other. The parts are built here, not read.

// piece is a part of an expression.
type piece struct {
	atom        string // how it is written, if it is no group
	bytes       string // what it matches, then
	inner       []piece
	group       int // 0: no group
	count       string
	least, most int
}

// made is what matches a list of parts: for each part its copies.
type made struct {
	begin, end int
	parts      []madePart
}

type madePart struct {
	begin, end int
	copies     []made
}

func allLists(pieces []piece, text string, begin int) []made {
	lists := []made{{begin: begin, end: begin}}
	for _, p := range pieces {
		var longer []made
		for _, l := range lists {
			for _, copies := range allCopies(p, text, l.end, nil) {
				end := l.end
				if len(copies) > 0 {
					end = copies[len(copies)-1].end
				}
				parts := append(slices.Clone(l.parts), madePart{l.end, end, copies})
				longer = append(longer, made{begin, end, parts})
			}
		}
		lists = longer
	}
	return lists
}

func allCopies(p piece, text string, begin int, copies []made) [][]made {
	var all [][]made
	if len(copies) >= p.least {
		all = append(all, copies)
	}
	if len(copies) == p.most {
		return all
	}
	for _, c := range allAtoms(p, text, begin) {
		if c.end > begin || len(copies) < p.least {
			all = append(all, allCopies(p, text, c.end, append(slices.Clone(copies), c))...)
		}
	}
	return all
}

func allAtoms(p piece, text string, begin int) []made {
	if p.group > 0 {
		return allLists(p.inner, text, begin)
	}
	if begin < len(text) && strings.IndexByte(p.bytes, text[begin]) >= 0 {
		return []made{{begin: begin, end: begin + 1}}
	}
	return nil
}

// compare answers above 0 if a is the better one of two that begin at one place.
func compare(a, b made) int {
	order := cmp.Compare(a.end, b.end)
	for i := range a.parts {
		order = cmp.Or(order, cmp.Compare(a.parts[i].end-a.parts[i].begin, b.parts[i].end-b.parts[i].begin))
	}
	if order != 0 {
		return order
	}
	for i := range a.parts {
		order = cmp.Or(order, compareCopies(a.parts[i].copies, b.parts[i].copies))
	}
	return order
}

func compareCopies(a, b []made) int {
	for i := range min(len(a), len(b)) {
		if order := cmp.Compare(a[i].end-a[i].begin, b[i].end-b[i].begin); order != 0 {
			return order
		}
	}
	if len(a) != len(b) {
		panic("two ways with as long copies, and not as many")
	}
	for i := range a {
		if order := compare(a[i], b[i]); order != 0 {
			return order
		}
	}
	return 0
}

func setSpans(spans []int, pieces []piece, parts []madePart) {
	for i, p := range pieces {
		copies := parts[i].copies
		if p.group == 0 || len(copies) == 0 {
			continue
		}
		last := copies[len(copies)-1]
		spans[2*p.group], spans[2*p.group+1] = last.begin, last.end
		setSpans(spans, p.inner, last.parts)
	}
}

// bestFrom answers what Match has to.
func bestFrom(pieces []piece, groups int, onlyBegin, onlyEnd bool, text string, at int) []int {
	for place := at; place <= len(text); place++ {
		if onlyBegin && place > 0 {
			return nil
		}
		all := slices.DeleteFunc(allLists(pieces, text, place), func(m made) bool {
			return onlyEnd && m.end != len(text)
		})
		if len(all) == 0 {
			continue
		}
		best := slices.MaxFunc(all, compare)
		spans := slices.Repeat([]int{-1}, 2+2*groups)
		spans[0], spans[1] = best.begin, best.end
		setSpans(spans, pieces, best.parts)
		return spans
	}
	return nil
}

// maker makes expressions.
type maker struct {
	*rand.Rand
	groups int
}

func (m *maker) pieces(depth int) []piece {
	list := make([]piece, m.Intn(4))
	for i := range list {
		list[i] = m.piece(depth)
	}
	return list
}

func (m *maker) piece(depth int) piece {
	atoms := []piece{
		{atom: "a", bytes: "a"}, {atom: "b", bytes: "b"}, {atom: ".", bytes: "ab"},
		{atom: "[^a]", bytes: "b"}, {atom: "[a-b]", bytes: "ab"},
	}
	counts := []piece{
		{least: 1, most: 1}, {least: 1, most: 1}, {count: "*", most: -1}, {count: `\{0\}`},
		{count: `\{2\}`, least: 2, most: 2}, {count: `\{0,1\}`, most: 1}, {count: `\{1,\}`, least: 1, most: -1},
		{count: `\{1,2\}`, least: 1, most: 2}, {count: `\{2,3\}`, least: 2, most: 3}, {count: `\{2,\}`, least: 2, most: -1},
	}
	p := atoms[m.Intn(len(atoms))]
	if depth > 0 && m.Intn(2) == 0 && m.groups < 9 {
		m.groups++
		p = piece{group: m.groups}
		p.inner = m.pieces(depth - 1)
	}
	c := counts[m.Intn(len(counts))]
	p.count, p.least, p.most = c.count, c.least, c.most
	return p
}

func write(pieces []piece) string {
	text := ""
	for _, p := range pieces {
		if p.group > 0 {
			text += `\(` + write(p.inner) + `\)`
		} else {
			text += p.atom
		}
		text += p.count
	}
	return text
}

func TestP3BestOfAll(t *testing.T) {
	texts := []string{"", "a", "b", "ab", "aa", "aab", "aba", "baab", "aaaa", "abab", "aabba"}
	tries := 0
	for seed := range int64(6000) {
		m := &maker{Rand: rand.New(rand.NewSource(seed))}
		pieces := m.pieces(2)
		expr := write(pieces)
		onlyBegin, onlyEnd := m.Intn(4) == 0, m.Intn(4) == 0
		if onlyBegin {
			expr = "^" + expr
		}
		if onlyEnd {
			expr += "$"
		}
		if len(expr) > 60 {
			continue
		}
		text := texts[m.Intn(len(texts))]
		at := m.Intn(len(text) + 1)
		want := bestFrom(pieces, m.groups, onlyBegin, onlyEnd, text, at)
		checkFound(t, []found{{expr, text, at, want}})
		tries++
	}
	if tries < 3000 {
		t.Errorf("only %d expressions were tried", tries)
	}
}

// The texts are long enough to need more than one word of a set of places.
func TestP3LongTexts(t *testing.T) {
	for _, n := range []int{63, 64, 65, 127, 128, 129, 190} {
		text := strings.Repeat("a", n)
		checkFound(t, []found{
			{`\(a*\)b\(a*\)`, text + "baa", 0, []int{0, n + 3, 0, n, n + 1, n + 3}},
			{`\(aa\)*$`, text, 0, []int{n % 2, n, n - 2, n}},
			{`\(a*\)\(a\{9\}\)`, text, 0, []int{0, n, 0, n - 9, n - 9, n}},
			{"b", text + "b", 0, []int{n, n + 1}},
		})
	}
	if _, e, _ := psed.Match("a", strings.Repeat("a", 200), 0); e != psed.OK {
		t.Errorf("a text of 200 bytes: error %d", e)
	}
}
