package psed

import (
	"slices"
	"testing"
)

// A matcher that goes from text to text answers as a new one does.
func TestMatcherTurns(t *testing.T) {
	x := readExpr(`\(a*\)*\(b\)\{1,2\}`)
	m := newMatcher(x)
	for _, text := range []string{"aab", "aab", "bab", "", "bbb", "aaa", "", "aab", "ba", "ab"} {
		for at := range len(text) + 1 {
			if got, want := m.from(text, at), newMatcher(x).from(text, at); !slices.Equal(got, want) {
				t.Errorf("in %q from %d on: %v, want %v", text, at, got, want)
			}
		}
	}
}

func TestMatcherKeeps(t *testing.T) {
	m := newMatcher(readExpr("a*b"))
	m.from("aab", 0)
	size := len(m.known)
	if m.from("aab", 0); size == 0 || len(m.known) != size {
		t.Errorf("of one text %d things are known, then %d", size, len(m.known))
	}
	if m.from("", 0); len(m.known) >= size {
		t.Errorf("of another text %d things are known, of the first one %d", len(m.known), size)
	}
}

func TestCaughtHidesNoMistake(t *testing.T) {
	defer func() {
		if recover() == nil {
			t.Errorf("a mistake of the program's own was hidden")
		}
	}()
	var none []int
	caught(func() { none[0] = 1 })
}

func TestPlaceSet(t *testing.T) {
	var s placeSet
	if s.last() != -1 || s.has(0) || s.has(1000) {
		t.Errorf("an empty set has places")
	}
	want := []int{200, 128, 127, 64, 63, 1, 0}
	for _, place := range want {
		s.add(place)
	}
	if got := slices.Collect(s.lastFirst()); !slices.Equal(got, want) || s.last() != 200 {
		t.Errorf("places %v, want %v", got, want)
	}
	var other placeSet
	other.addAll(s)
	other.add(2)
	if s.has(2) || !other.has(200) || !other.has(2) || other.has(3) {
		t.Errorf("sets %v and %v", s, other)
	}
}
