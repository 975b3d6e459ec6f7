package psed_test

import (
	"strings"
	"testing"

	"psed/psed"
)

func TestCommandB(t *testing.T) {
	checkEdits(t,
		edit{"b\np", "a\nb\n", "a\nb\n"}, edit{"p\nb\np", "a\n", "a\na\n"}, edit{"1b\np", "a\nb\n", "a\nb\nb\n"},
		edit{"b x\np\n:x\n=", "a\nb", "1\na\n2\nb\n"}, edit{"b x\np\n:x", "a", "a\n"}, edit{"$b x\np\n:x\n=", "a\nb", "a\n1\na\n2\nb\n"},
		edit{":a\ns/$/x/\n/xxx/!b a", "a\nb", "axxx\nbxxx\n"}, edit{"b y\n:x\np\nb\n:y\n=\nb x", "a", "1\na\na\n"},
		edit{":a\nN\n$!b a\ns/\\n/,/g", "1\n2\n3", "1,2,3\n"},
	)
}

func TestCommandT(t *testing.T) {
	checkEdits(t,
		edit{"t\np", "a\n", "a\na\n"}, edit{"s/a/b/\nt\np", "a\nc\n", "b\nc\nc\n"}, edit{"s/x/b/\nt\np", "a\n", "a\na\n"},
		edit{"s/a/b/\nt x\np\n:x\n=", "a\nc", "1\nb\nc\n2\nc\n"},
		edit{":a\ns/aa/a/\nt a", "aaaa\nba", "a\nba\n"},
		// One change lets one t go on, though another s has changed nothing since.
		edit{"s/a/b/\ns/x/y/\nt x\n=\n:x\nt\np", "a\n", "b\nb\n"},
		edit{"s/a/b/\nt x\n:x\nt y\n=\n:y", "a\n", "1\nb\n"},
		edit{"s/a/b/\nt x\n:x\ns/b/c/\nt y\n=\n:y", "a\n", "c\n"},
		edit{"s/a/b/\n/x/t\nt\n=", "a\n", "b\n"}, edit{"s/a/b/\n!t\nt\n=", "a\n", "b\n"},
		// A text that is replaced by itself is changed.
		edit{"s/a/a/\nt\n=", "a\nb\n", "a\n2\nb\n"}, edit{"s/x*//\nt\n=", "a\n", "a\n"},
		// The next line makes changes forgotten: of a cycle, of n and of N.
		edit{"2t\n2=\ns/a/b/", "a\na", "b\n2\nb\n"}, edit{"s/a/b/\nn\nt\n=", "a\nb", "b\n2\nb\n"}, edit{"s/a/b/\nN\nt\n=", "a\nb", "2\nb\nb\n"},
		// y, g and x change nothing that t asks for.
		edit{"y/a/b/\nx\ng\nG\nt\n=", "a\n", "1\nb\nb\n"},
		// Behind D no line is read.
		edit{"/^2/t\n=\ns/-/\\n/\nD", "1-2\n", "1\n2\n"},
	)
}

func TestCommandNumber(t *testing.T) {
	checkEdits(t, edit{"=", "a\nb\n", "1\na\n2\nb\n"}, edit{"$=", "a\nb\n", "a\n2\nb\n"}, edit{"N\n=\nN\n=", "a\nb\nc\n", "2\n3\na\nb\nc\n"}, edit{"n\n=", "a\nb\nc", "a\n2\nb\nc\n"})
	checkQuiet(t, edit{"=", "a\n", "1\n"}, edit{"$=", strings.Repeat("\n", 1500), "1500\n"}, edit{"10=", strings.Repeat("\n", 15), "10\n"})
}

func TestCommandsAIC(t *testing.T) {
	checkEdits(t,
		edit{"a x", "1\n2", "1\nx\n2\nx\n"}, edit{"i x", "1\n2", "x\n1\nx\n2\n"}, edit{"c x", "1\n2", "x\nx\n"},
		edit{"$a x", "1\n2", "1\n2\nx\n"}, edit{"$i x", "1\n2", "1\nx\n2\n"}, edit{"$c x", "1\n2", "1\nx\n"}, edit{"2,3c x", "1\n2\n3\n4", "1\nx\nx\n4\n"}, edit{"2!c x", "1\n2\n3", "x\n2\nx\n"},
		edit{"i x\np\ni y\np", "1", "x\n1\ny\n1\n1\n"}, edit{"a x\ni y\na z", "1", "y\n1\nx\nz\n"}, edit{"c x\np", "1\n", "x\n"}, edit{"G\nc x\nG", "1\n", "x\n"},
		edit{"a ", "1", "1\n\n"}, edit{"i  two  blanks ", "1", " two  blanks \n1\n"}, edit{`a \n&/{}\1`, "1", "1\n\\n&/{}\\1\n"}, edit{"c \x00\xff", "1", "\x00\xff\n"},
		edit{"a x", "", ""}, edit{"i x", "", ""}, edit{"N\nc x\n", "1\n2\n3\n", "x\n3\n"}, edit{"s/-/\\n/\nc x", "1-2\n", "x\n"},
	)
	long := as(500)
	checkEdits(t, edit{"i " + long, "1", long + "\n1\n"}, edit{"a " + long, "1", "1\n" + long + "\n"}, edit{"c " + long, "1", long + "\n"})
}

func TestCommandsD(t *testing.T) {
	checkEdits(t,
		edit{"d", "a\nb", ""}, edit{"1d", "a\nb", "b\n"}, edit{"$d", "a\nb", "a\n"}, edit{"p\nd\np", "a", "a\n"}, edit{"2d\n=", "a\nb\nc", "1\na\n3\nc\n"},
		edit{"N\nd", "a\nb\nc", "c\n"}, edit{"$!N\nd", "a\nb\nc", ""}, edit{"h\nd", "a\nb", ""}, edit{"$!d\ng", "a\nb", "\n"}, edit{"1{\nh\nd\n}\nG", "a\nb", "b\na\n"},
		edit{"D\np", "a\nb", ""}, edit{"$D", "a\nb", "a\n"}, edit{"2D", "a\nb\nc", "a\nc\n"},
	)
}

func TestCommandsHeld(t *testing.T) {
	checkEdits(t,
		edit{"g", "a\nb", "\n\n"}, edit{"1h\n2g", "a\nb\nc", "a\na\nc\n"}, edit{"G", "a\nb", "a\n\nb\n\n"}, edit{"1h\nG", "a\nb", "a\na\nb\na\n"}, edit{"h\nG\nG", "a", "a\na\na\n"},
		edit{"H\n$!d\ng", "a\nb", "\na\nb\n"}, edit{"H\nx", "a\nb", "\na\na\nb\n"}, edit{"1h\n1!H\n$!d\nx", "a\nb\nc", "a\nb\nc\n"}, edit{"h\nH\ng", "a", "a\na\n"},
		edit{"x", "a\nb\nc", "\na\nb\n"}, edit{"x\nx", "a\nb", "a\nb\n"}, edit{"x\n$G", "a\nb\nc", "\na\nb\nc\n"}, edit{"x\np\nx", "a\nb", "\na\n\nb\n"},
		edit{"1!G\nh\n$!d", "a\nb\nc", "c\nb\na\n"}, edit{"h\ns/a/b/\nG", "a", "b\na\n"}, edit{"h\nd\ng", "a\nb", ""}, edit{"$g", "a\nb", "a\n\n"}, edit{"$H\n$x", "a\nb", "a\n\nb\n"},
	)
}

func TestCommandsN(t *testing.T) {
	checkEdits(t,
		edit{"n", "a\nb\nc", "a\nb\nc\n"}, edit{"n\nd", "a\nb\nc", "a\nc\n"}, edit{"n\n=", "a\nb\nc", "a\n2\nb\nc\n"}, edit{"n\nn\ns/^/-/", "a\nb\nc\nd\ne", "a\nb\n-c\nd\ne\n"}, edit{"$n\ns/^/-/", "a\nb", "-a\nb\n"},
		edit{"n\np", "a", "a\n"}, edit{"h\nn\nG", "a\nb", "a\nb\na\n"}, edit{"s/$/!/\nn", "a\nb\nc", "a!\nb\nc!\n"},
		edit{"N", "a\nb\nc", "a\nb\nc\n"}, edit{"N\ns/\\n/-/", "a\nb\nc\nd", "a-b\nc-d\n"}, edit{"N\ns/\\n/-/", "a\nb\nc", "a-b\nc\n"}, edit{"N\np", "a", "a\n"}, edit{"N\nN\ns/\\n/-/g", "a\nb\nc\nd", "a-b-c\nd\n"},
		edit{"$!N\ns/\\n/-/", "a\nb\nc", "a-b\nc\n"}, edit{"N\n=", "a\nb\nc", "2\na\nb\nc\n"}, edit{"N\ns/^a\\nb$/x/", "a\nb", "x\n"}, edit{"n\nN\ns/\\n/-/", "1\n2\n3\n4\n5", "1\n2-3\n4\n5\n"},
	)
	checkQuiet(t,
		edit{"n\np", "a\nb\nc", "b\n"}, edit{"n", "a\nb\nc", ""}, edit{"N\np", "a\nb\nc", "a\nb\n"}, edit{"N\np", "a", ""}, edit{"n\np", "a", ""}, edit{"p\nn\np", "a\nb\nc", "a\nb\nc\n"},
	)
}

func TestCommandsP(t *testing.T) {
	checkEdits(t, edit{"p", "a\nb", "a\na\nb\nb\n"}, edit{"$p", "a\nb", "a\nb\nb\n"}, edit{"P", "a\nb", "a\na\nb\nb\n"}, edit{"N\nP", "a\nb", "a\na\nb\n"}, edit{"N\np", "a\nb", "a\nb\na\nb\n"})
	checkQuiet(t, edit{"N\nN\nP", "a\nb\nc", "a\n"}, edit{"N\nN\np", "a\nb\nc", "a\nb\nc\n"}, edit{"G\nP", "a", "a\n"}, edit{"x\nG\nP", "a", "\n"}, edit{"P", "\n", "\n"}, edit{"p", "\n", "\n"}, edit{"H\nx\nP", "a", "\n"})
}

// checkStatus holds what is put out, and the status, of a script over data.
func checkStatus(t *testing.T, script, data, out string, status int) {
	t.Helper()
	checkRun(t, jobOf(script, data), psed.Result{Out: out, Status: status})
}

func TestCommandsQ(t *testing.T) {
	const data = "1\n2\n3\n"
	for script, out := range map[string]string{
		"q": "1\n", "Q": "", "2q": "1\n2\n", "2Q": "1\n", "$q": data, "$Q": "1\n2\n", "9q": data, "/x/Q": data, "q\np": "1\n", "p\nQ": "1\n", "2!q": "1\n", "2,3q": "1\n2\n",
		"N\nq": "1\n2\n", "N\nQ": "", "n\nq": "1\n2\n", "n\nQ": "1\n", "2{\nq\n}\n=": "1\n1\n2\n", "i x\nQ": "x\n", "s/1/x/\nq": "x\n",
	} {
		checkStatus(t, script, data, out, 0)
	}
	for script, status := range map[string]int{"q": 0, "q0": 0, "q1": 1, "q2": 2, "q3": 3, "q4": 4, "q5": 5, "q6": 6, "q7": 7, "q8": 8, "q9": 9} {
		checkStatus(t, script, "a\nb", "a\n", status)
		checkStatus(t, "$"+script, "a\nb", "a\nb\n", status)
		checkStatus(t, strings.ToUpper(script), "a\nb", "", status)
		checkStatus(t, "$"+strings.ToUpper(script), "a\nb", "a\n", status)
		checkStatus(t, script, "", "", 0)
	}
	checkQuiet(t, edit{"q", data, ""}, edit{"p\n2q", data, "1\n2\n"}, edit{"a x\n2q", data, "x\nx\n"})
}

func TestCommandS(t *testing.T) {
	checkEdits(t,
		edit{"s/a/b/", "aa\nca\n", "ba\ncb\n"}, edit{"s/x/b/", "aa", "aa\n"}, edit{"s/a//", "aba", "ba\n"}, edit{"$s/a/b/", "a\na", "a\nb\n"}, edit{"s/^a/b/", "aa\nca", "ba\nca\n"}, edit{"s/a$/b/", "aa\nac", "ab\nac\n"},
		edit{"s/.*/x/", "abc\n\n", "x\nx\n"}, edit{"s/^/x/", "a\n\n", "xa\nx\n"}, edit{"s/$/x/", "a\n\n", "ax\nx\n"}, edit{"s///", "a", "a\n"}, edit{"s//x/", "a", "xa\n"}, edit{"s/[0-9]*/-/", "ab12", "-ab12\n"},
		edit{"s/a*b/x/", "caabab", "cxab\n"}, edit{"N\ns/a.b/x/", "a\nb", "x\n"}, edit{"N\ns/^b/x/", "a\nb", "a\nb\n"}, edit{"N\ns/a$/x/", "a\nb", "a\nb\n"}, edit{"s/\\//x/", "a/b", "axb\n"},
	)
}

func TestSReplacement(t *testing.T) {
	checkEdits(t,
		edit{"s/b*/[&]/", "bba", "[bb]a\n"}, edit{"s/a/&&&/", "ba", "baaa\n"}, edit{"s/a/\\&/", "a", "&\n"}, edit{`s/a/\\/`, "a", "\\\n"}, edit{`s/a/\//`, "a", "/\n"}, edit{`s/a/b\nc/`, "a", "b\nc\n"}, edit{`s/a/\\n/`, "a", "\\n\n"},
		edit{`s/\(a\)\(b\)/\2\1/`, "abab", "baab\n"}, edit{`s/\(a\)*\(b\)*/<\1|\2>/`, "bb", "<|b>\n"}, edit{`s/\(a\)*\(b\)*/<\1|\2>/`, "c", "<|>c\n"}, edit{`s/\(a*\)\(b*\)/<\1|\2>/`, "c", "<|>c\n"},
		edit{`s/\(\(a\)\(b\)\)*/<\1\2\3>/`, "ababc", "<abab>c\n"}, edit{`s/\(.\)\(.\)\(.\)\(.\)\(.\)\(.\)\(.\)\(.\)\(.\)/\9\8\7\6\5\4\3\2\1/`, "123456789", "987654321\n"},
		edit{`s/\(a\)/\1\1&/`, "a", "aaa\n"}, edit{`s/\(.*\)-\(.*\)/\2-\1/`, "a-b-c", "c-a-b\n"}, edit{"s/a/*^$.[]{}/", "a", "*^$.[]{}\n"}, edit{"s/a/ b /", "a", " b \n"}, edit{"s/a/\x00\xff/", "a", "\x00\xff\n"},
		edit{`s/\(x\)*a/[\1]/g`, "xaa", "[x][]\n"},
	)
}

func TestSFlags(t *testing.T) {
	checkEdits(t,
		edit{"s/a/b/g", "aaa\ncac", "bbb\ncbc\n"}, edit{"s/a/b/1", "aaa", "baa\n"}, edit{"s/a/b/2", "aaa", "aba\n"}, edit{"s/a/b/3", "aaa", "aab\n"}, edit{"s/a/b/4", "aaa", "aaa\n"}, edit{"s/a/b/9", as(10), as(8) + "ba\n"},
		edit{"s/a/b/1g", "aaa", "bbb\n"}, edit{"s/a/b/2g", "aaa", "abb\n"}, edit{"s/a/b/4g", "aaa", "aaa\n"}, edit{"s/^a/b/g", "aaa", "baa\n"}, edit{"s/^a/b/2", "aaa", "aaa\n"}, edit{"s/a$/b/g", "aaa", "aab\n"},
		edit{"s/a/b/p", "a\nc", "b\nb\nc\n"}, edit{"s/a/b/2p", "aa\na", "ab\nab\na\n"}, edit{"s/a/b/gp", "aa\nc", "bb\nbb\nc\n"}, edit{"s/a/b/2gp", "aaa\na", "abb\nabb\na\n"}, edit{"N\ns/a/b/p", "a\nc", "b\nc\nb\nc\n"},
		edit{"s/aa/a/g", "aaaaa", "aaa\n"}, edit{"s/a/aa/g", "aa", "aaaa\n"}, edit{`s/\(a\)\(b\)*/[\2]/g`, "abbaab", "[b][][b]\n"}, edit{"s/b/\\n/gp", "abc", "a\nc\na\nc\n"},
	)
	checkQuiet(t, edit{"s/a/b/p", "a\nc", "b\n"}, edit{"s/a/b/", "a\nc", ""}, edit{"s/a/b/5p", "aaaa", ""})
}

// A match that is empty does not stand right behind another one.
func TestSEmptyMatches(t *testing.T) {
	checkEdits(t,
		edit{"s/x*/-/g", "abc", "-a-b-c-\n"}, edit{"s/a*/x/g", "baaac", "xbxcx\n"}, edit{"s/b*/-/g", "abc", "-a-c-\n"}, edit{"s/a*/x/g", "aaa", "x\n"}, edit{"s/a*/x/g", "\n", "x\n"}, edit{"s/$/x/g", "ab", "abx\n"}, edit{"s/^/x/g", "ab", "xab\n"},
		edit{"s/x*/-/2", "abc", "a-bc\n"}, edit{"s/x*/-/4", "abc", "abc-\n"}, edit{"s/x*/-/5", "abc", "abc\n"}, edit{"s/b*/-/2", "abc", "a-c\n"}, edit{"s/b*/-/3", "abc", "abc-\n"}, edit{"s/b*/-/3g", "abcb", "abc-\n"}, edit{"s/b*/-/4", "abc", "abc\n"},
		edit{"s/b*$/-/g", "abb", "a-\n"}, edit{`s/\(ab\)*/-/g`, "ababa", "-a-\n"}, edit{"s/a*b*/-/g", "aabbab", "--\n"}, edit{"s/a\\{0,2\\}/-/g", "aaab", "--b-\n"}, edit{"N\ns/a*/-/g", "a\nb", "-\n-b-\n"},
	)
}

// checkWrote holds what is put out, and written, of a script over data.
func checkWrote(t *testing.T, script, data, out string, wrote ...psed.Written) {
	t.Helper()
	checkRun(t, jobOf(script, data), psed.Result{Out: out, Wrote: wrote})
}

func TestCommandW(t *testing.T) {
	checkWrote(t, "w o", "a\nb", "a\nb\n", psed.Written{Name: "o", Data: "a\nb\n"})
	checkWrote(t, "$w o", "a\nb", "a\nb\n", psed.Written{Name: "o", Data: "b\n"})
	checkWrote(t, "w o\nd", "a\nb", "", psed.Written{Name: "o", Data: "a\nb\n"})
	checkWrote(t, "N\nw o\nd", "a\nb", "", psed.Written{Name: "o", Data: "a\nb\n"})
	checkWrote(t, "w o\nw p\ns/a/x/\nw o", "a\nb", "x\nb\n", psed.Written{Name: "o", Data: "a\nx\nb\nb\n"}, psed.Written{Name: "p", Data: "a\nb\n"})
	checkWrote(t, "w abcdefgh\nw abcdefg", "a", "a\n", psed.Written{Name: "abcdefg", Data: "a\n"}, psed.Written{Name: "abcdefgh", Data: "a\n"})
	checkWrote(t, "w f", "a", "a\n", psed.Written{Name: "f", Data: "a\n"})
	checkWrote(t, "i x\n=\np\nw o\na y", "a", "x\n1\na\na\ny\n", psed.Written{Name: "o", Data: "a\n"})
}

func TestSFlagW(t *testing.T) {
	checkWrote(t, "s/a/b/w o", "a\nc\na", "b\nc\nb\n", psed.Written{Name: "o", Data: "b\nb\n"})
	checkWrote(t, "s/a/b/2gpw o", "aaa\na", "abb\nabb\na\n", psed.Written{Name: "o", Data: "abb\n"})
	checkWrote(t, "s/a/b/gw o\ns/b/c/w p\nw o", "aa", "cb\n", psed.Written{Name: "o", Data: "bb\ncb\n"}, psed.Written{Name: "p", Data: "cb\n"})
	checkWrote(t, "s/x/b/pw o", "a", "a\n", psed.Written{Name: "o"})
	checkWrote(t, "s/a/\\n/w o", "bab", "b\nb\n", psed.Written{Name: "o", Data: "b\nb\n"})
}

func TestCommandY(t *testing.T) {
	checkEdits(t,
		edit{"y/abc/bca/", "aabbcc\nx", "bbccaa\nx\n"}, edit{"y/ab/ba/", "abba", "baab\n"}, edit{"y///", "a", "a\n"}, edit{"y/a/b/", "ca\na", "cb\nb\n"}, edit{"$y/a/b/", "a\na", "a\nb\n"}, edit{"y/abc/xxx/", "cabd", "xxxd\n"},
		edit{"y/\x00\xff/\xff\x00/", "\x00a\xff", "\xffa\x00\n"}, edit{"y/ *&/&* /", " *&", "&* \n"}, edit{"N\ny/ab/ba/", "a\nb", "b\na\n"}, edit{"y/a/\xc3/", "a\xa4", "\xc3\xa4\n"}, edit{"y/a/b/\ny/b/c/", "ab", "cc\n"}, edit{"y/é/xy/", "é", "xy\n"},
	)
}

// At no command there is more than what the table says.
func TestCommandsThatDoNothing(t *testing.T) {
	checkEdits(t, edit{":a\n:b\n{\n}\n{\n:c\n}", "a\nb", "a\nb\n"})
}
