package psed

import (
	"iter"
	"slices"
)

// What stands in a key where else a number of copies stands.
const (
	itsBytes  = -1 // where one of the part's bytes stands
	wholeList = -2 // where the part and those behind it begin
)

// anyEnd stands in a key where else the place is at which something ends.
const anyEnd = -1

// matcher looks for an expression's matches. It goes from sets of places to sets
// of places, so that the number of ways in which a text can be matched does not
// tell. What it finds out about a text it keeps: by the part, what it is about
// (or how many of the part's copies are made already), and the end that is
// reached.
type matcher struct {
	*expression
	text  string
	known map[[3]int]placeSet
}

func newMatcher(x *expression) *matcher {
	return &matcher{expression: x, known: map[[3]int]placeSet{}}
}

// from answers the best match at the lowest place from at on at which there is
// one: where it begins and ends, and then each group; nil, if there is none.
func (m *matcher) from(text string, at int) []int {
	m.turnTo(text)
	place := m.begins().firstFrom(at)
	if place < 0 {
		return nil
	}
	return m.best(place)
}

// isIn tells whether there is a match in a text.
func (m *matcher) isIn(text string) bool {
	m.turnTo(text)
	return !m.begins().isEmpty()
}

// all goes through the matches in a text. Each but the first is not ahead of
// the end of the one before, and, if it is empty, not at that end.
func (m *matcher) all(text string) iter.Seq[[]int] {
	return func(yield func([]int) bool) {
		spans := m.from(text, 0)
		for spans != nil && yield(spans) {
			end := spans[1]
			spans = m.from(text, end)
			if spans != nil && spans[1] == end {
				spans = m.from(text, end+1)
			}
		}
	}
}

// turnTo forgets what is known, if that is of another text.
func (m *matcher) turnTo(text string) {
	if text != m.text {
		clear(m.known)
		m.text = text
	}
}

// kept answers what is known by a key, and finds it out first if need be.
func (m *matcher) kept(key [3]int, findOut func() placeSet) placeSet {
	set, ok := m.known[key]
	if !ok {
		set = findOut()
		m.known[key] = set
	}
	return set
}

// begins answers the places at which there is a match.
func (m *matcher) begins() placeSet {
	return m.kept([3]int{m.first, wholeList, anyEnd}, func() placeSet {
		ends := allPlaces(len(m.text))
		if m.onlyEnd {
			ends = m.only(len(m.text))
		}
		begins := m.listBegins(m.first, ends)
		if m.onlyBegin {
			begins = begins.among(m.only(0))
		}
		return begins
	})
}

// best answers the best match at a place at which there is one.
func (m *matcher) best(place int) []int {
	end := len(m.text)
	if !m.onlyEnd {
		end = m.listEnds(m.first, m.only(place)).last()
	}
	spans := []int{place, end}
	for range m.groups {
		spans = append(spans, -1, -1)
	}
	m.spanList(spans, m.first, place, end)
	return spans
}

func (m *matcher) only(place int) placeSet {
	return onePlace(place, len(m.text))
}

// listEnds answers where the parts from i on may end, if they begin at one of
// the places.
func (m *matcher) listEnds(i int, begins placeSet) placeSet {
	for ; i != noPart; i = m.parts[i].next {
		begins = m.partEnds(i, begins)
	}
	return begins
}

// listBegins answers where the parts from i on may begin, if they end at one of
// the places.
func (m *matcher) listBegins(i int, ends placeSet) placeSet {
	if i == noPart {
		return ends
	}
	return m.copiesBegin(i, 0, m.listBegins(m.parts[i].next, ends))
}

// partEnds answers where part i may end, if it begins at one of the places.
func (m *matcher) partEnds(i int, begins placeSet) placeSet {
	return m.parts[i].copies(0, begins, func(begins placeSet) placeSet { return m.atomEnds(i, begins) })
}

// copiesBegin answers where part i may begin behind the copies that are made
// already, if it ends at one of the places.
func (m *matcher) copiesBegin(i, made int, ends placeSet) placeSet {
	return m.parts[i].copies(made, ends, func(ends placeSet) placeSet { return m.atomBegins(i, ends) })
}

// copies answers which places are reached from these, if some copies are made
// already, and a step goes from places to those that one more copy reaches.
func (p *part) copies(made int, places placeSet, step func(placeSet) placeSet) placeSet {
	for ; made < p.least; made++ {
		next := step(places)
		if slices.Equal(next, places) {
			return places // more copies reach nothing else
		}
		places = next
	}
	reached := places
	for ; made < p.most && !places.isEmpty(); made++ {
		places = step(places).without(reached)
		reached = reached.with(places)
	}
	return reached
}

// atomEnds answers where a copy of part i may end, if it begins at one of the
// places.
func (m *matcher) atomEnds(i int, begins placeSet) placeSet {
	if p := m.parts[i]; p.group > 0 {
		return m.listEnds(p.inner, begins)
	}
	return begins.among(m.bytesOf(i)).later()
}

// atomBegins answers where a copy of part i may begin, if it ends at one of the
// places.
func (m *matcher) atomBegins(i int, ends placeSet) placeSet {
	if p := m.parts[i]; p.group > 0 {
		return m.listBegins(p.inner, ends)
	}
	return ends.earlier().among(m.bytesOf(i))
}

// bytesOf answers where a byte stands that part i matches.
func (m *matcher) bytesOf(i int) placeSet {
	return m.kept([3]int{i, itsBytes, anyEnd}, func() placeSet {
		places := noPlaces(len(m.text))
		for place := range len(m.text) {
			if m.parts[i].bytes.has(m.text[place]) {
				places.add(place)
			}
		}
		return places
	})
}

// spanList sets the spans of the groups in the parts from i on, which reach
// from begin to end: each part in its turn is as long as the others allow.
func (m *matcher) spanList(spans []int, i, begin, end int) {
	for ; i != noPart; i = m.parts[i].next {
		middle := end
		if begin < end {
			middle = m.partEnds(i, m.only(begin)).among(m.listTo(m.parts[i].next, end)).last()
		}
		m.spanCopies(spans, i, begin, middle)
		begin = middle
	}
}

// listTo answers from where on the parts from i on may reach that end.
func (m *matcher) listTo(i, end int) placeSet {
	if i == noPart {
		return m.only(end)
	}
	return m.kept([3]int{i, wholeList, end}, func() placeSet {
		return m.copiesBegin(i, 0, m.listTo(m.parts[i].next, end))
	})
}

// spanCopies sets the spans of the groups in part i, which reaches from begin to
// end: each copy in its turn is as long as the others allow. Only the last one
// tells the spans; those that must be, but have nothing left, are empty.
func (m *matcher) spanCopies(spans []int, i, begin, end int) {
	p := m.parts[i]
	if p.group == 0 {
		return
	}
	made, last := 0, end
	for begin < end {
		made++
		last, begin = begin, m.atomEnds(i, m.only(begin)).among(m.copiesTo(i, made, end)).last()
	}
	if made < p.least {
		made, last = p.least, end
	}
	if made > 0 {
		spans[2*p.group], spans[2*p.group+1] = last, end
		m.spanList(spans, p.inner, last, end)
	}
}

// copiesTo answers from where on part i may reach that end, if some of its
// copies are made already.
func (m *matcher) copiesTo(i, made, end int) placeSet {
	made = m.parts[i].counted(made)
	return m.kept([3]int{i, made, end}, func() placeSet { return m.copiesBegin(i, made, m.only(end)) })
}
