package psed

import (
	"reflect"
	"slices"
	"testing"
)

// A matcher that goes from text to text answers as a new one does.
func TestMatcherTurns(t *testing.T) {
	x := readExpr(`\(a*\)*\(b\)\{1,2\}`)
	m := newMatcher(x)
	for _, text := range []string{"aab", "aab", "bab", "", "bbb", "aaa", "", "aab", "ba", "ab"} {
		for at := range len(text) + 1 {
			if got, want := m.from(text, at), newMatcher(x).from(text, at); !slices.Equal(got, want) {
				t.Errorf("in %q from %d on: %v, want %v", text, at, got, want)
			}
		}
	}
}

func TestMatcherKeeps(t *testing.T) {
	m := newMatcher(readExpr("a*b"))
	m.from("aab", 0)
	size := len(m.known)
	if m.from("aab", 0); size == 0 || len(m.known) != size {
		t.Errorf("of one text %d things are known, then %d", size, len(m.known))
	}
	if m.from("", 0); len(m.known) >= size {
		t.Errorf("of another text %d things are known, of the first one %d", len(m.known), size)
	}
}

func TestCaughtHidesNoMistake(t *testing.T) {
	defer func() {
		if recover() == nil {
			t.Errorf("a mistake of the program's own was hidden")
		}
	}()
	var none []int
	caught[fault](func() { none[0] = 1 })
}

// What is read of a script is what its words say.
func TestScriptRead(t *testing.T) {
	all := readScript("1,4071!{\n$b\n}\n:x\nt x\na  b \nq7\nQ\nw in\ny/ab/cd/")
	want := []command{
		{letter: '{', place: 7, addresses: []address{{line: 1}, {line: 4071}}, not: true, plain: "1,4071!{", target: 2},
		{letter: 'b', place: 10, addresses: []address{{}}, plain: "$b", target: 10},
		{letter: '}', place: 12, plain: "}"},
		{letter: ':', place: 14, plain: ":x", label: "x"},
		{letter: 't', place: 17, plain: "t x", label: "x", target: 3},
		{letter: 'a', place: 21, plain: "a  b ", text: " b "},
		{letter: 'q', place: 27, plain: "q7", status: 7},
		{letter: 'Q', place: 30, plain: "Q"},
		{letter: 'w', place: 32, plain: "w in", name: "in"},
		{letter: 'y', place: 37, plain: "y/ab/cd/", from: "ab", to: "cd"},
	}
	if !reflect.DeepEqual(all, want) {
		t.Errorf("read %+v, want %+v", all, want)
	}
	if x := readScript("/a*/p")[0].addresses[0].expr; !reflect.DeepEqual(x, readExpr("a*")) {
		t.Errorf("read %+v between slashes", x)
	}
}

func TestSubstitutionRead(t *testing.T) {
	text := func(text string) piece { return piece{text, noGroup} }
	c := readScript(`s/\(a\)*\//b&\1\&\n\\\/c/3gpw out`)[0]
	want := &substitution{
		expr:   readExpr(`\(a\)*\/`),
		pieces: []piece{text("b"), {group: 0}, {group: 1}, text("&"), text("\n"), text("\\"), text("/"), text("c")},
		first:  3, all: true, print: true,
	}
	if !reflect.DeepEqual(c.change, want) || c.name != "out" {
		t.Errorf("read %+v to %q, want %+v", c.change, c.name, want)
	}
	c = readScript("s///")[0]
	if want = (&substitution{expr: readExpr(""), first: 1}); !reflect.DeepEqual(c.change, want) || c.name != "" {
		t.Errorf("read %+v to %q, want %+v", c.change, c.name, want)
	}
}

func placesOf(length int, places ...int) placeSet {
	set := noPlaces(length)
	for _, place := range places {
		set.add(place)
	}
	return set
}

// listed is a set's places, one behind the other.
func listed(s placeSet) []int {
	var all []int
	for place := s.firstFrom(0); place >= 0; place = s.firstFrom(place + 1) {
		all = append(all, place)
	}
	return all
}

func TestPlaceSet(t *testing.T) {
	a, b := placesOf(200, 0, 1, 63, 64, 127, 128, 199), placesOf(200, 1, 2, 64, 200)
	for _, c := range []struct {
		got  placeSet
		want []int
	}{
		{noPlaces(200), nil}, {onePlace(0, 0), []int{0}}, {onePlace(128, 128), []int{128}}, {a, []int{0, 1, 63, 64, 127, 128, 199}},
		{a.with(b), []int{0, 1, 2, 63, 64, 127, 128, 199, 200}}, {a.among(b), []int{1, 64}}, {a.without(b), []int{0, 63, 127, 128, 199}},
		{a.later(), []int{1, 2, 64, 65, 128, 129, 200}}, {a.earlier(), []int{0, 62, 63, 126, 127, 198}}, {b.earlier().later(), []int{1, 2, 64, 200}},
		{a, []int{0, 1, 63, 64, 127, 128, 199}}, {b, []int{1, 2, 64, 200}},
	} {
		if got := listed(c.got); !slices.Equal(got, c.want) {
			t.Errorf("places %v, want %v", got, c.want)
		}
	}
	for place, last := range map[int]int{0: 0, 5: 5, 63: 63, 64: 64, 199: 199} {
		if got := onePlace(place, 200).last(); got != last || a.with(onePlace(200, 200)).last() != 200 {
			t.Errorf("the last of %d is %d", place, got)
		}
	}
	if !noPlaces(70).isEmpty() || noPlaces(70).last() != -1 || a.isEmpty() || onePlace(64, 64).isEmpty() || a.firstFrom(200) != -1 || a.firstFrom(300) != -1 || a.firstFrom(65) != 127 {
		t.Errorf("an empty set is not told from others")
	}
}

func TestAllPlaces(t *testing.T) {
	for _, length := range []int{0, 1, 62, 63, 64, 65, 127, 128, 200, 1500} {
		if got := listed(allPlaces(length)); len(got) != length+1 || got[length] != length {
			t.Errorf("of a text of %d bytes: %v", length, got)
		}
	}
}
