package psed_test

import (
	"strings"
	"testing"
)

func TestP7Cycles(t *testing.T) {
	checkEdits(t,
		edit{"", "a\nb\n", "a\nb\n"},
		edit{"p\np", "a\nb\n", "a\na\na\nb\nb\nb\n"},
		edit{"p\n=", "a\nb\n", "a\n1\na\nb\n2\nb\n"},
		edit{"=\np", "a\n", "1\na\na\n"},
	)
	checkQuiet(t,
		edit{"", "a\nb\n", ""},
		edit{"p", "a\nb\n", "a\nb\n"},
		edit{"a x", "a\nb\n", "x\nx\n"},
		edit{"a x\np\ni y\nc z", "a\n", "a\ny\nz\nx\n"},
	)
}

// The texts of a come behind the pattern, in their order, each only once.
func TestP7Later(t *testing.T) {
	checkEdits(t,
		edit{"a x", "1\n2", "1\nx\n2\nx\n"},
		edit{"a x\na y\np", "1\n2", "1\n1\nx\ny\n2\n2\nx\ny\n"},
		edit{"1a x", "1\n2\n3", "1\nx\n2\n3\n"},
		edit{"1a x\n1n", "1\n2\n3", "1\nx\n2\n3\n"},
		edit{"1a x\n1N\na y", "1\n2\n3", "x\n1\n2\ny\n3\ny\n"},
		edit{"a x\nd", "1\n2", "x\nx\n"},
		edit{"a x\nc y", "1\n2", "y\nx\ny\nx\n"},
		edit{"a x\nn\na y", "1\n2\n3\n", "1\nx\n2\ny\n3\nx\n"},
		edit{"a x\nN", "1", "1\nx\n"},
		edit{"a x\nn", "1", "1\nx\n"},
		edit{"a x\nq", "1\n2", "1\nx\n"},
		edit{"a x\nQ", "1\n2", ""},
		edit{"a x\nb\na y", "1\n", "1\nx\n"},
		edit{"a x\nG\nD", "", ""},
		edit{"s/-/\\n/\na x\nD", "1-2\n3", "x\nx\nx\n"},
		edit{"a x\ns/$/!/", "1\n", "1!\nx\n"},
	)
	checkQuiet(t, edit{"a x\nn\np", "1\n2\n", "x\n2\n"}, edit{"a x\nn\np", "1\n", "x\n"}, edit{"a x\nN\np", "1\n2\n", "x\n1\n2\n"}, edit{"a x\nq", "1\n2", "x\n"})
}

// Behind D the next cycle begins with what is left of the pattern; it counts no
// line, and begins at the last line too.
func TestP7BehindD(t *testing.T) {
	checkEdits(t,
		edit{"D", "a\nb\n", ""},
		edit{"s/-/\\n/\n=\n/\\n/D", "1-2\n3-4", "1\n1\n2\n2\n2\n4\n"},
		edit{"$!N\nP\nD", "a\nb\nc", "a\nb\nc\n"},
		edit{"$!N\nP\nD", "a\n", "a\n"},
		edit{"N\nN\nP\nD", "1\n2\n3\n4\n5\n", "1\n2\n3\n4\n5\n"},
		edit{"N\nD", "1\n2\n3", "3\n"},
		edit{"N\nN\nD", "1\n2\n3\n4", "2\n3\n4\n"},
		edit{"/^b/b\ns/x/\\n\\n/\np\nD", "axb\n", "a\n\nb\n\nb\nb\n"},
		edit{"/^$/d\np\nG\nD", "a\n", "a\n"},
		edit{"/^$/b\nG\nD", "a\nb\n", "\n\n"},
		edit{"1!{\np\nd\n}\nh\nN\nx\nG\nD", "a\nb\nc\n", "a\nb\nc\n"},
	)
	checkQuiet(t, edit{"s/-/\\n/\np\nD", "1-2\n", "1\n2\n2\n"})
}

// A D in a cycle that began behind another one is no different.
func TestP7DAgain(t *testing.T) {
	checkEdits(t,
		edit{"s/-/\\n/g\nP\nD", "1-2-3-4\n5\n", "1\n2\n3\n4\n5\n"},
		edit{"s/-/\\n/g\n/3/d\nD", "1-2-3-4\n5-6\n3\n7", ""},
		edit{"s/-/\\n/g\n/^3/b\nD", "1-2-3-4\n5-6\n7", "3\n4\n"},
		edit{"s/-/\\n/g\n/^3/n\nD", "1-2-3-4\n5-6\n7", "3\n4\n"},
	)
}

func TestP8OneAddress(t *testing.T) {
	const data = "a\nb\nab\nc\n"
	checkQuiet(t,
		edit{"p", data, data}, edit{"!p", data, ""},
		edit{"1p", data, "a\n"}, edit{"3p", data, "ab\n"}, edit{"4p", data, "c\n"}, edit{"5p", data, ""}, edit{"11p", data, ""}, edit{"1!p", data, "b\nab\nc\n"}, edit{"9999!p", data, data},
		edit{"$p", data, "c\n"}, edit{"$!p", data, "a\nb\nab\n"},
		edit{"/a/p", data, "a\nab\n"}, edit{"/b$/p", data, "b\nab\n"}, edit{"/^b/p", data, "b\n"}, edit{"/x/p", data, ""}, edit{"//p", data, data}, edit{"/^$/p", data, ""},
		edit{"/a/!p", data, "b\nc\n"}, edit{"//!p", data, ""},
		edit{"$p", "a", "a\n"}, edit{"1p\n$p", "a", "a\na\n"}, edit{"/a/p", "", ""},
	)
}

// What is asked is asked of the pattern, and of the line, as they are then.
func TestP8AskedThen(t *testing.T) {
	checkQuiet(t,
		edit{"s/a/b/\n/a/p\n/b/=", "a\nb\n", "1\n2\n"},
		edit{"1n\n1p\n2p", "a\nb\nc", "b\n"},
		edit{"1p\nN\n2p\n$=", "a\nb", "a\na\nb\n2\n"},
		edit{"N\n/a\\nb/p\n/^b/=\n/a$/=", "a\nb\n", "a\nb\n"},
		edit{"x\n/a/p", "a\nb\n", "a\n"},
		edit{"/" + strings.Repeat("a", 60) + "/p", as(59) + "\n" + as(60) + "\n" + as(250), as(60) + "\n" + as(250) + "\n"},
	)
}

func TestP8Ranges(t *testing.T) {
	const data = "1\n2\n3\n4\n5\n"
	checkQuiet(t,
		edit{"2,4p", data, "2\n3\n4\n"}, edit{"1,5p", data, data}, edit{"2,4!p", data, "1\n5\n"}, edit{"4,9p", data, "4\n5\n"}, edit{"6,9p", data, ""},
		edit{"2,2p", data, "2\n"}, edit{"2,1p", data, "2\n"}, edit{"5,1p", data, "5\n"}, edit{"2,3p", data, "2\n3\n"}, edit{"2,1!p", data, "1\n3\n4\n5\n"},
		edit{"2,$p", data, "2\n3\n4\n5\n"}, edit{"$,2p", data, "5\n"}, edit{"$,$p", data, "5\n"}, edit{"$,9p", data, "5\n"}, edit{"$,/./p", data, "5\n"},
		edit{"2,/4/p", data, "2\n3\n4\n"}, edit{"2,/2/p", data, "2\n3\n4\n5\n"}, edit{"2,/1/p", data, "2\n3\n4\n5\n"},
		edit{"/2/,4p", data, "2\n3\n4\n"}, edit{"/2/,2p", data, "2\n"}, edit{"/2/,$p", data, "2\n3\n4\n5\n"},
		edit{"/2/,/4/p", data, "2\n3\n4\n"}, edit{"/[24]/,/[35]/p", data, "2\n3\n4\n5\n"}, edit{"/[24]/,/[35]/!p", data, "1\n"}, edit{"/9/,/1/p", data, ""},
		edit{"/./,/./p", data, data}, edit{"/./,/./!p", data, ""}, edit{"/[134]/,2p", data, "1\n2\n3\n4\n"}, edit{"/[135]/,/[12]/p", data, "1\n2\n3\n4\n5\n"},
		edit{"/[14]/,/[23]/p", data, "1\n2\n4\n5\n"}, edit{"1,2p\n2,3p", data, "1\n2\n2\n3\n"}, edit{"2,$!p", "1", "1\n"},
	)
}

// A range that has ended begins again at a line that belongs to its first
// address, not at the one at which it ended.
func TestP8BeginAgain(t *testing.T) {
	checkQuiet(t,
		edit{"/a/,/b/=", "a\nb\na\nx\nb\nx\na", "1\n2\n3\n4\n5\n7\n"},
		edit{"/a/,/a/=", "a\na\na\nx", "1\n2\n3\n4\n"},
		edit{"/a/,/a/=", "a\na\nx\na\na", "1\n2\n4\n5\n"},
		edit{"/a/,1=", "a\nx\na\na\nx", "1\n3\n4\n"},
		edit{"/a/,3=", "a\nx\nx\na\nx\na", "1\n2\n3\n4\n6\n"},
	)
}

// A range knows only the lines at which its command is come to.
func TestP8NotAtEveryLine(t *testing.T) {
	const data = "1\n2\n3\n4\n5\n6\n"
	checkQuiet(t,
		edit{"/2/b\n2,4p", data, ""},
		edit{"/4/b\n2,4p", data, "2\n3\n5\n6\n"},
		edit{"/4/b\n2,/4/p", data, "2\n3\n5\n6\n"},
		edit{"/3/b\n2,4p", data, "2\n4\n"},
		edit{"n\n2,4p", data, "2\n4\n"},
		edit{"n\n1,4p", data, ""},
		edit{"n\n2,3p", data, "2\n4\n6\n"},
		edit{"2,3{\n3,4=\n}\n3,4p", data, "3\n3\n4\n"},
		edit{"1,2!{\n/[24]/,/[36]/p\n}", data, "4\n5\n6\n"},
		edit{"/[14]/,/[25]/{\n/[24]/,/[15]/p\n}", data, "2\n4\n5\n"},
		edit{"1,2{\n/2/,/x/=\n}\n5,6{\ns/6/x/\n}\n/2/,/x/p", data, "2\n2\n3\n4\n5\nx\n"},
	)
}

// The line at which a range began does not end it, though the command is come to
// again; one that is over may begin again there.
func TestP8SameLineAgain(t *testing.T) {
	checkQuiet(t,
		edit{":a\n/a/,/b/=\ns/a/b/\nt a", "a\nx\nb\nx", "1\n1\n2\n3\n"},
		edit{":a\n1,$p\ns/a/b/\nt a", "a\n", "a\nb\n"},
		edit{":a\n/a/,1p\ns/a/b/\nt a", "a\nb\n", "a\n"},
		edit{":a\n1,1p\ns/a/b/\nt a", "a\nb\n", "a\nb\n"},
		edit{":a\n/a/,/c/p\ns/b/c/\nt c\ns/c/d/\nt a\nb\n:c\nb a", "a\nb\na\n", "a\nb\nc\na\n"},
		edit{"s/-/\\n/\n/a/,/b/P\nD", "a-b\nb\nc", "a\nb\nb\n"},
	)
}

func TestP8Blocks(t *testing.T) {
	const data = "1\n2\n3\n4\n"
	checkQuiet(t,
		edit{"{\np\n}", data, data}, edit{"!{\np\n}", data, ""}, edit{"2{\np\n}\n=", data, "1\n2\n2\n3\n4\n"}, edit{"2,3{\np\n}", data, "2\n3\n"}, edit{"2,3!{\np\n}", data, "1\n4\n"},
		edit{"2,4{\n3,4{\n$!{\np\n}\n=\n}\n}\n1p", data, "1\n3\n3\n4\n"},
		edit{"2{\n}\np", data, data}, edit{"2!{\n}\np", data, data},
		edit{"1!{\n2!{\np\n}\n}", data, "3\n4\n"},
		edit{"{\n{\n{\n{\n{\n{\n3p\n}\n}\n}\n}\n}\n}", data, "3\n"},
		edit{"/2/{\nb\n}\np", data, "1\n3\n4\n"}, edit{"/2/{\nb x\n}\np\n:x\n=", data, "1\n1\n2\n3\n3\n4\n4\n"},
		edit{"2b in\n!{\n:in\np\n}", data, "2\n"},
		edit{"1{\np\n}\n2{\n=\n}", data, "1\n2\n"},
		edit{"/2/{\ns/2/x/\n/2/!p\n}", data, "x\n"},
	)
}
