package psed

import "iter"

// wholeList stands in a key where else a number of copies stands.
const wholeList = -1

// matcher looks for an expression's matches. What it finds out about a text it
// keeps, as the same place is come to in many ways: where the copies of a part
// may end, and where a part and those behind it may, by the part, the copies
// that are made already (or wholeList), and the place at which they begin.
type matcher struct {
	*expression
	text  string
	known map[[3]int]placeSet
}

func newMatcher(x *expression) *matcher {
	return &matcher{expression: x, known: map[[3]int]placeSet{}}
}

// from answers the best match at the lowest place from at on at which there is
// one: where it begins and ends, and then each group; nil, if there is none.
func (m *matcher) from(text string, at int) []int {
	m.turnTo(text)
	for place := at; place <= len(text); place++ {
		if spans := m.best(place); spans != nil {
			return spans
		}
	}
	return nil
}

// all goes through the matches in a text. Each but the first is not ahead of
// the end of the one before, and, if it is empty, not at that end.
func (m *matcher) all(text string) iter.Seq[[]int] {
	return func(yield func([]int) bool) {
		spans := m.from(text, 0)
		for spans != nil && yield(spans) {
			end := spans[1]
			if spans = m.best(end); spans == nil || spans[1] == end {
				spans = m.from(text, end+1)
			}
		}
	}
}

// turnTo forgets what is known, if that is of another text.
func (m *matcher) turnTo(text string) {
	if text != m.text {
		clear(m.known)
		m.text = text
	}
}

// best answers the best match at a place; nil, if there is none.
func (m *matcher) best(place int) []int {
	if m.onlyBegin && place > 0 {
		return nil
	}
	end := m.listEnds(m.first, place).last()
	if end < 0 || m.onlyEnd && end < len(m.text) {
		return nil
	}
	spans := []int{place, end}
	for range m.groups {
		spans = append(spans, -1, -1)
	}
	m.spanList(spans, m.first, place, end)
	return spans
}

// listEnds answers where the parts from i on may end, if they begin at place.
func (m *matcher) listEnds(i, place int) placeSet {
	var ends placeSet
	if i == noPart {
		ends.add(place)
		return ends
	}
	key := [3]int{i, wholeList, place}
	if known, ok := m.known[key]; ok {
		return known
	}
	for end := range m.copyEnds(i, 0, place).lastFirst() {
		ends.addAll(m.listEnds(m.parts[i].next, end))
	}
	m.known[key] = ends
	return ends
}

// copyEnds answers where the copies of part i may end, if some are made and the
// next one begins at place.
func (m *matcher) copyEnds(i, made, place int) placeSet {
	key := [3]int{i, m.parts[i].counted(made), place}
	if known, ok := m.known[key]; ok {
		return known
	}
	var ends placeSet
	if made >= m.parts[i].least {
		ends.add(place)
	}
	for end := range m.nextCopy(i, made, place) {
		ends.addAll(m.copyEnds(i, made+1, end))
	}
	m.known[key] = ends
	return ends
}

// nextCopy goes through the places at which the next copy of part i may end, if
// some are made and it begins at place: the longest copy first.
func (m *matcher) nextCopy(i, made, place int) iter.Seq[int] {
	p := &m.parts[i]
	return func(yield func(int) bool) {
		if made == p.most {
			return
		}
		for end := range m.atomEnds(p, place).lastFirst() {
			if end == place && made >= p.least {
				return
			}
			if !yield(end) {
				return
			}
		}
	}
}

// atomEnds answers where a part's atom may end, if it begins at place.
func (m *matcher) atomEnds(p *part, place int) placeSet {
	if p.group > 0 {
		return m.listEnds(p.inner, place)
	}
	var ends placeSet
	if place < len(m.text) && p.bytes.has(m.text[place]) {
		ends.add(place + 1)
	}
	return ends
}

// spanList sets the spans of the groups in the parts from i on, which reach
// from begin to end: each part in its turn is as long as the others allow.
func (m *matcher) spanList(spans []int, i, begin, end int) {
	for ; i != noPart; i = m.parts[i].next {
		middle := m.partEnd(i, begin, end)
		m.spanCopies(spans, i, begin, middle)
		begin = middle
	}
}

// partEnd answers where part i ends, if it and those behind it reach from begin
// to end.
func (m *matcher) partEnd(i, begin, end int) int {
	for middle := range m.copyEnds(i, 0, begin).lastFirst() {
		if m.listEnds(m.parts[i].next, middle).has(end) {
			return middle
		}
	}
	return end // not come to: the caller knows that they reach it
}

// spanCopies sets the spans of the groups in part i, which reaches from begin to
// end. Only its last copy tells them.
func (m *matcher) spanCopies(spans []int, i, begin, end int) {
	p := &m.parts[i]
	if p.group == 0 {
		return
	}
	made, last := 0, begin
	for made < p.least || begin < end {
		last, begin = begin, m.copyEnd(i, made, begin, end)
		made++
	}
	if made > 0 {
		spans[2*p.group], spans[2*p.group+1] = last, end
		m.spanList(spans, p.inner, last, end)
	}
}

// copyEnd answers where the next copy of part i ends, if some are made and it
// and those behind it reach from begin to end.
func (m *matcher) copyEnd(i, made, begin, end int) int {
	for middle := range m.nextCopy(i, made, begin) {
		if m.copyEnds(i, made+1, middle).has(end) {
			return middle
		}
	}
	return end // not come to: the caller knows that they reach it
}
