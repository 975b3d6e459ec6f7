package psed

import (
	"reflect"
	"slices"
	"testing"
)

// A matcher that goes from text to text answers as a new one does.
func TestMatcherTurns(t *testing.T) {
	x := readExpr(`\(a*\)*\(b\)\{1,2\}`)
	m := newMatcher(x)
	for _, text := range []string{"aab", "aab", "bab", "", "bbb", "aaa", "", "aab", "ba", "ab"} {
		for at := range len(text) + 1 {
			if got, want := m.from(text, at), newMatcher(x).from(text, at); !slices.Equal(got, want) {
				t.Errorf("in %q from %d on: %v, want %v", text, at, got, want)
			}
		}
	}
}

func TestMatcherKeeps(t *testing.T) {
	m := newMatcher(readExpr("a*b"))
	m.from("aab", 0)
	size := len(m.known)
	if m.from("aab", 0); size == 0 || len(m.known) != size {
		t.Errorf("of one text %d things are known, then %d", size, len(m.known))
	}
	if m.from("", 0); len(m.known) >= size {
		t.Errorf("of another text %d things are known, of the first one %d", len(m.known), size)
	}
}

func TestCaughtHidesNoMistake(t *testing.T) {
	defer func() {
		if recover() == nil {
			t.Errorf("a mistake of the program's own was hidden")
		}
	}()
	var none []int
	caught[fault](func() { none[0] = 1 })
}

// What is read of a script is what its words say.
func TestScriptRead(t *testing.T) {
	all := readScript("1,4071!{\n$b\n}\n:x\nt x\na  b \nq7\nQ\nw in\ny/ab/cd/")
	want := []command{
		{letter: '{', place: 7, addresses: []address{{line: 1}, {line: 4071}}, not: true, plain: "1,4071!{", target: 2},
		{letter: 'b', place: 10, addresses: []address{{}}, plain: "$b", target: 10},
		{letter: '}', place: 12, plain: "}"},
		{letter: ':', place: 14, plain: ":x", label: "x"},
		{letter: 't', place: 17, plain: "t x", label: "x", target: 3},
		{letter: 'a', place: 21, plain: "a  b ", text: " b "},
		{letter: 'q', place: 27, plain: "q7", status: 7},
		{letter: 'Q', place: 30, plain: "Q"},
		{letter: 'w', place: 32, plain: "w in", name: "in"},
		{letter: 'y', place: 37, plain: "y/ab/cd/", from: "ab", to: "cd"},
	}
	if !reflect.DeepEqual(all, want) {
		t.Errorf("read %+v, want %+v", all, want)
	}
	if x := readScript("/a*/p")[0].addresses[0].expr; !reflect.DeepEqual(x, readExpr("a*")) {
		t.Errorf("read %+v between slashes", x)
	}
}

func TestSubstitutionRead(t *testing.T) {
	text := func(text string) piece { return piece{text, noGroup} }
	c := readScript(`s/\(a\)*\//b&\1\&\n\\\/c/3gpw out`)[0]
	want := &substitution{
		expr:   readExpr(`\(a\)*\/`),
		pieces: []piece{text("b"), {group: 0}, {group: 1}, text("&"), text("\n"), text("\\"), text("/"), text("c")},
		first:  3, all: true, print: true,
	}
	if !reflect.DeepEqual(c.change, want) || c.name != "out" {
		t.Errorf("read %+v to %q, want %+v", c.change, c.name, want)
	}
	c = readScript("s///")[0]
	if want = (&substitution{expr: readExpr(""), first: 1}); !reflect.DeepEqual(c.change, want) || c.name != "" {
		t.Errorf("read %+v to %q, want %+v", c.change, c.name, want)
	}
}

func TestPlaceSet(t *testing.T) {
	var s placeSet
	if s.last() != -1 || s.has(0) || s.has(1000) {
		t.Errorf("an empty set has places")
	}
	want := []int{200, 128, 127, 64, 63, 1, 0}
	for _, place := range want {
		s.add(place)
	}
	if got := slices.Collect(s.lastFirst()); !slices.Equal(got, want) || s.last() != 200 {
		t.Errorf("places %v, want %v", got, want)
	}
	var other placeSet
	other.addAll(s)
	other.add(2)
	if s.has(2) || !other.has(200) || !other.has(2) || other.has(3) {
		t.Errorf("sets %v and %v", s, other)
	}
}
