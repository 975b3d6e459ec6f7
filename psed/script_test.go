package psed_test

import (
	"strings"
	"testing"

	"psed/psed"
)

func checkTaken(t *testing.T, scripts ...string) {
	t.Helper()
	for _, script := range scripts {
		if e, place := psed.Check(script); e != psed.OK || place != 0 {
			t.Errorf("Check(%.80q) = %d, %d, want OK, 0", script, e, place)
		}
	}
}

// badScript is a text that is no script, or has a wrong label.
type badScript struct {
	script string
	place  int
}

// checkBad holds what Check and Print answer against an error and its place.
func checkBad(t *testing.T, want psed.Errno, cases ...badScript) {
	t.Helper()
	for _, c := range cases {
		if e, place := psed.Check(c.script); e != want || place != c.place {
			t.Errorf("Check(%.80q) = %d, %d, want %d, %d", c.script, e, place, want, c.place)
		}
		if text, e, place := psed.Print(c.script); text != "" || e != want || place != c.place {
			t.Errorf("Print(%.80q) = %q, %d, %d, want nothing, %d, %d", c.script, text, e, place, want, c.place)
		}
	}
}

// bareCommands are all commands that take addresses, in each of their forms, but
// for those of blocks and labels.
func bareCommands() []string {
	return []string{
		"b", "t", "=", "a text", "i text", "c text", "a ", "i ", "c ", "a  two  blanks ", `a \n&/{}:`, "i \x00\xff",
		"d", "D", "g", "G", "h", "H", "x", "n", "N", "p", "P", "q", "q0", "q9", "Q", "Q0", "Q5",
		"s/a/b/", "s///", "s/^$//", `s/\(a\)\(b\)*/\2\1&\n\&\\\/ x/`, "s/a/b/1", "s/a/b/9", "s/a/b/g", "s/a/b/p",
		"s/a/b/w out", "s/a/b/3g", "s/a/b/3p", "s/a/b/gp", "s/a/b/3w a", "s/a/b/gw a", "s/a/b/pw a", "s/a/b/2gpw abcdefgh",
		`s/[*^$.]\n\/\{1,2\}/*^$.[]/`, "w a", "w abcdefgh", "w z", "y///", "y/a/b/", "y/abc/ccc/", "y/ *&/&* /", "y/\x00\xff/\xff\xff/",
	}
}

// lineChoices are what may tell to which lines a command belongs: no, one and
// two addresses of each kind.
func lineChoices() []string {
	kinds := []string{"1", "9", "10", "9999", "$", "//", "/a/", `/^\(x\)*\/$/`, "/ 1, 2 /"}
	all := append([]string{""}, kinds...)
	for _, from := range kinds {
		for _, to := range kinds {
			all = append(all, from+","+to)
		}
	}
	return all
}

func TestP4EveryCommand(t *testing.T) {
	for _, lines := range lineChoices() {
		for _, not := range []string{"", "!"} {
			for _, blanks := range []string{"", " ", "   "} {
				for _, command := range bareCommands() {
					checkTaken(t, blanks+lines+blanks+not+command)
				}
				checkTaken(t, blanks+lines+blanks+not+"{\n}", blanks+lines+not+"b l\n"+blanks+":l", ":abcdefgh\n"+lines+blanks+not+"t abcdefgh")
			}
		}
	}
}

func TestP4Lines(t *testing.T) {
	checkTaken(t,
		"", "\n", "\n\n\n", " ", "   ", " \n  \n", "p\n", "p\n\n", "\n\np", "p\n   ", "  p\nd\n \n  x",
		"{\n}", "{\n\n \n}\n", "{\n{\n}\n{\np\n}\n}", "1,3{\n$!{\np\n}\n}\np", "  {\n  p\n  }",
		"a }\n", "a {\n", ":a\nb a", "b a\n:a", "b a\nb a\nt a\n:a\n:b", "{\n:in\n}\nb in", "b in\n1{\n:in\n}",
		":b\n:t\nb b\nt t",
	)
}

func as(n int) string { return strings.Repeat("a", n) }

func TestP4MaxScript(t *testing.T) {
	checkTaken(t, strings.Repeat("\n", 1000), strings.Repeat(" ", 1000), "a "+as(998), "s/a/"+as(995)+"/")
	checkBad(t, psed.ErrLong,
		badScript{strings.Repeat("\n", 1001), 0},
		badScript{"a " + as(999), 0},
		badScript{strings.Repeat("l", 1001), 0},
		badScript{"b x" + strings.Repeat(" ", 998), 0},
		badScript{strings.Repeat("p\n", 50000), 0},
	)
}

func TestP4MaxCmds(t *testing.T) {
	full := strings.Repeat("p\n", 60)
	checkTaken(t, full, full+" \n\n ", strings.Repeat("p\n\n \n", 60), strings.Repeat("{\n}\n", 30), strings.Repeat("b x\n", 59)+":x")
	checkBad(t, psed.ErrScript,
		badScript{full + "p", 120},
		badScript{full + "p\np\np\n", 120},
		badScript{full + "\n  1,$ !p", 128},
		badScript{full + ":a", 120},
		badScript{full + "0p", 120},
		badScript{full + "1,p", 122},
		badScript{strings.Repeat("p\n", 59) + "{\n}", 120},
		badScript{strings.Repeat("{\n}\n", 30) + "x", 120},
		badScript{strings.Repeat("b x\n", 60) + ":x", 240},
	)
}

func TestP4MaxNest(t *testing.T) {
	begun, ended := strings.Repeat("{\n", 6), strings.Repeat("}\n", 6)
	checkTaken(t, begun+ended, begun+ended+begun+ended, begun+"}\n{\n"+ended, begun+"}\n}\n{\n{\n"+ended)
	checkBad(t, psed.ErrScript,
		badScript{begun + "{\n}\n" + ended, 12},
		badScript{begun + "{", 12},
		badScript{begun + "  1,2 !{\n", 19},
		badScript{begun + "}\n{\n{\n}\n" + ended, 16},
	)
}

func TestP4MaxExpr(t *testing.T) {
	checkTaken(t,
		"/"+as(60)+"/p", "//,/"+as(60)+"/p", "/"+as(60)+"/,/"+as(60)+"/s/"+as(60)+"/"+as(500)+"/",
		"/"+as(58)+`\//p`, "/^"+as(58)+"$/p", "/"+as(59)+"*/p", "/["+as(58)+"]/p", "/"+as(55)+`\(\)*/p`, "/"+as(55)+`\{1\}/p`,
	)
	for _, before := range []string{"/", "s/", "1,/", "//,/", "p\n  $,/", "/a/,$s/"} {
		for _, full := range []string{
			as(60), as(59) + `\`, as(59) + "*", "^" + as(58) + "$", as(58) + `\(`, as(57) + `\(\`, as(58) + `\{`, as(57) + `\{1`, as(56) + `\{1,`,
			as(56) + `\{1\`, as(59) + "[", as(58) + "[^", as(58) + "[a", as(57) + "[a-", as(58) + `\n`,
		} {
			for _, ending := range []string{"a", "*/p", "$/p", ")/p", "]/p", "}/p", "1/p", ".//", `\//p`, "\n", "\n/p", ""} {
				checkBad(t, psed.ErrScript, badScript{before + full + ending, len(before) + 60})
			}
		}
	}
}

func TestP4BadLetters(t *testing.T) {
	for b := range 256 {
		if strings.IndexByte("{}:bt=aicdDgGhHxnNpPqQswy \n!$/123456789", byte(b)) < 0 {
			for before, place := range map[string]int{"": 0, "  ": 2, "p\n": 2, "1": 1, "$,2 ": 4, "!": 1} {
				if before == "1" && '0' == b || before == "1" && ',' == b {
					continue
				}
				text := before + string([]byte{byte(b)})
				checkBad(t, psed.ErrScript, badScript{text, place}, badScript{text + "\np", place}, badScript{text + " x", place})
			}
		}
	}
}

func TestP4BadAddresses(t *testing.T) {
	checkBad(t, psed.ErrScript,
		badScript{"1", 1}, badScript{"1\n", 1}, badScript{"1\np", 1}, badScript{"$", 1}, badScript{"$ ", 2}, badScript{"$ \np", 2},
		badScript{"!", 1}, badScript{"!\n", 1}, badScript{" 1 !", 4}, badScript{"//", 2},
		badScript{"0p", 0}, badScript{"01p", 0}, badScript{"1,0p", 2}, badScript{"1,01p", 2},
		badScript{"12345p", 4}, badScript{"1,12345p", 6}, badScript{"10000p", 4}, badScript{"1234 5p", 5},
		badScript{"1,", 2}, badScript{"1,\n", 2}, badScript{"1,p", 2}, badScript{"1,!p", 2}, badScript{",1p", 0}, badScript{"1,,2p", 2},
		badScript{"1 ,2p", 2}, badScript{"1, 2p", 2}, badScript{"1,2,3p", 3}, badScript{"1,2 ,3p", 4}, badScript{"1 2p", 2}, badScript{"$$p", 1}, badScript{"1$p", 1},
		badScript{"$1p", 1}, badScript{"/a/1p", 3}, badScript{"1/a/p", 1}, badScript{"/a//b/p", 3},
		badScript{"1!!p", 2}, badScript{"1! p", 2}, badScript{"1 ! p", 3}, badScript{"! 1p", 1}, badScript{"!1p", 1}, badScript{"-1p", 0}, badScript{"+p", 0},
		badScript{"/", 1}, badScript{"/a", 2}, badScript{"/a\n/p", 2}, badScript{"/a\\", 3}, badScript{"/*/p", 1}, badScript{"/a**/p", 3}, badScript{"/a^/p", 2},
		badScript{"/$a/p", 2}, badScript{`/\(a/p`, 4}, badScript{`/a\)/p`, 3}, badScript{"/[/]/p", 2}, badScript{"/[b-a]/p", 4}, badScript{`/a\{2,1\}/p`, 6},
		badScript{"1,/*/p", 3}, badScript{"p\n/a/,/b*c**/p", 11}, badScript{`/\(\)\(\)\(\)\(\)\(\)\(\)\(\)\(\)\(\)\(\)/p`, 38},
	)
}

func TestP4NoAddress(t *testing.T) {
	checkBad(t, psed.ErrScript,
		badScript{"{\n1}", 3}, badScript{"{\n!}", 3}, badScript{"{\n  /a/,$ !}", 11}, badScript{"{\n1 }", 4}, badScript{"{\n$,$}\n}", 5},
		badScript{"1:a", 1}, badScript{"!:a", 1}, badScript{"1 :a", 2}, badScript{"$!:a", 2}, badScript{"p\n /a/,3 :a", 9},
		badScript{"1}", 1}, badScript{"!}", 1},
	)
}

func TestP4Blocks(t *testing.T) {
	checkBad(t, psed.ErrScript,
		badScript{"}", 0}, badScript{"  }", 2}, badScript{"p\n}\n{", 2}, badScript{"{\n}\n}", 4}, badScript{"{\n}\n}\nl", 4},
		badScript{"{", 1}, badScript{"{\n", 2}, badScript{"{\np\n\n ", 6}, badScript{"{\n{\n}\n", 6}, badScript{"1{\na }\n", 7},
		badScript{"{p\n}", 1}, badScript{"{}", 1}, badScript{"{ \n}", 1}, badScript{"{\np}", 3}, badScript{"{\n} ", 3}, badScript{"{\n}}", 3}, badScript{"{\nl", 2},
	)
}

func TestP4NothingBehind(t *testing.T) {
	for _, command := range strings.Split("= d D g G h H x n N p P", " ") {
		for _, more := range []string{" ", "p", ";", "1", "/", "}", " p", "\x00"} {
			checkBad(t, psed.ErrScript, badScript{command + more, 1}, badScript{"1,2!" + command + more + "\np", 5})
		}
	}
	checkBad(t, psed.ErrScript,
		badScript{"bx", 1}, badScript{"b x ", 3}, badScript{"b x y", 3}, badScript{"t1", 1}, badScript{"q10", 2}, badScript{"q 1", 1}, badScript{"Qa", 1},
		badScript{"q1 ", 2}, badScript{":a b", 2}, badScript{"w a ", 3}, badScript{"y/a/b/ ", 6}, badScript{"y/a/b/g", 6}, badScript{"s/a/b/ ", 6},
		badScript{"s/a/b/w a ", 9}, badScript{"s/a/b/gpw ab/", 12},
	)
}

func TestP4Words(t *testing.T) {
	checkBad(t, psed.ErrScript,
		badScript{":", 1}, badScript{":\n", 1}, badScript{": a", 1}, badScript{":A", 1}, badScript{":a1", 2}, badScript{":abcdefghi", 9}, badScript{":`", 1}, badScript{":a{", 2},
		badScript{"b ", 2}, badScript{"b \n:a", 2}, badScript{"b  a\n:a", 2}, badScript{"t A", 2}, badScript{"t abcdefghi", 10}, badScript{"t é", 2},
		badScript{"w", 1}, badScript{"w\n", 1}, badScript{"w ", 2}, badScript{"w \n", 2}, badScript{"wa", 1}, badScript{"w  a", 2}, badScript{"w out1", 5},
		badScript{"w abcdefghi", 10}, badScript{"w a.b", 3},
		badScript{"a", 1}, badScript{"a\n", 1}, badScript{"axx", 1}, badScript{"i", 1}, badScript{"i\\", 1}, badScript{"c", 1}, badScript{"1,2c\n text", 4},
	)
}

func TestP4EveryDigitAndLetter(t *testing.T) {
	nineGroups := strings.Repeat(`\(\)`, 9)
	for digit := range strings.SplitSeq("0123456789", "") {
		checkTaken(t, "1"+digit+"p", "q"+digit, "Q"+digit, `/a\{`+digit+`\}/p`)
		if digit != "0" {
			checkTaken(t, digit+"p", "1,"+digit+"p", "s/a/b/"+digit, "s/"+nineGroups+`/\`+digit+"/")
		}
	}
	for letter := range strings.SplitSeq("abcdefghijklmnopqrstuvwxyz", "") {
		checkTaken(t, ":"+letter, ":a"+letter+"\nb a"+letter, "w "+letter, "s/a/b/w a"+letter)
	}
}

func TestP4Substitutions(t *testing.T) {
	checkBad(t, psed.ErrScript,
		badScript{"s", 1}, badScript{"s\n", 1}, badScript{"sa", 1}, badScript{"s /a/b/", 1}, badScript{"s,a,b,", 1},
		badScript{"s/", 2}, badScript{"s/a", 3}, badScript{"s/a\n", 3}, badScript{"s/a/", 4}, badScript{"s/a/b", 5}, badScript{"s/a/b\n/", 5}, badScript{"s/a\n/b/", 3},
		badScript{"s/*/b/", 2}, badScript{"s/a**/b/", 4}, badScript{`s/\(a/b/`, 5}, badScript{"s/[/]/b/", 3}, badScript{"s/a\\", 4},
		badScript{`s/a/\`, 5}, badScript{"s/a/\\\n/", 5}, badScript{`s/a/\a/`, 5}, badScript{`s/a/\0/`, 5}, badScript{`s/a/\(/`, 5}, badScript{`s/a/\./`, 5}, badScript{`s/a/b\/`, 7},
		badScript{`s/a/\1/`, 5}, badScript{`s/\(a\)/\2/`, 9}, badScript{`s/\(a\)/\1\2/`, 11}, badScript{`s/\(\(a\)\)/\3/`, 13}, badScript{`s/\(\(a\)\)/\9/`, 13},
		badScript{`s/\(a\)/b/` + "\n" + `s/a/\1/`, 16}, badScript{`/\(a\)/s/a/\1/`, 12},
		badScript{"s/a/b/0", 6}, badScript{"s/a/b/12", 7}, badScript{"s/a/b/11", 7}, badScript{"s/a/b/gg", 7}, badScript{"s/a/b/pp", 7}, badScript{"s/a/b/pg", 7},
		badScript{"s/a/b/g2", 7}, badScript{"s/a/b/p2", 7}, badScript{"s/a/b/2gpg", 9}, badScript{"s/a/b/x", 6}, badScript{"s/a/b//", 6},
		badScript{"s/a/b/w", 7}, badScript{"s/a/b/w\n", 7}, badScript{"s/a/b/wa", 7}, badScript{"s/a/b/w ", 8}, badScript{"s/a/b/w A", 8}, badScript{"s/a/b/w abcdefghi", 16},
	)
	checkTaken(t, `s/\(\)\(\)\(\)\(\)\(\)\(\)\(\)\(\)\(\)/\9\1/`, `s/\(\(a\)\)/\2/`, "s/a/b/w gp", "s/a/{}:!,$ /")
}

func TestP4Exchanges(t *testing.T) {
	checkBad(t, psed.ErrScript,
		badScript{"y", 1}, badScript{"y\n", 1}, badScript{"ya", 1}, badScript{"y/", 2}, badScript{"y/\n", 2}, badScript{"y/a", 3}, badScript{"y/a\n/b/", 3}, badScript{"y/a/", 4},
		badScript{"y/a//", 4}, badScript{"y/a/\n", 4}, badScript{"y/a/b", 5}, badScript{"y/a/b\n", 5},
		badScript{"y/ab/c/", 6}, badScript{"y/ab/c", 6}, badScript{"y/ab/c\n/", 6}, badScript{"y/a/bc/", 5}, badScript{"y//a/", 3}, badScript{"y//", 3}, badScript{"y//\n", 3},
		badScript{"y/aa/bc/", 3}, badScript{"y/aba/ccc/", 4}, badScript{"y/aa", 3}, badScript{"y/abcb\n", 5}, badScript{"y/\xff\xff/ab/", 3},
		badScript{`y/\/a/`, 2}, badScript{`y/a\b/`, 3}, badScript{`y/a/\/`, 4}, badScript{`y/ab/c\/`, 6}, badScript{`y/a/b\`, 5},
	)
	checkTaken(t, "y/abc/aaa/", "y/ab/ba/", "y/éa/abc/", "y/ /x/", "y/*[]^$.&/&.$^][*/")
}

func TestP4Labels(t *testing.T) {
	checkBad(t, psed.ErrLabel,
		badScript{"b x", 0}, badScript{"t x", 0}, badScript{"  1,2 !b x", 7}, badScript{":x\nb y", 3}, badScript{":x\nb xx", 3}, badScript{":xx\nb x", 4},
		badScript{":a\n:a", 3}, badScript{":a\n  :a", 5}, badScript{":a\n:a\n:a", 3}, badScript{":a\n{\n:a\n}", 5},
		badScript{":a\n:b\n1 t c\n:a", 8}, badScript{":a\n:a\nb x", 3}, badScript{"b x\n:a\n:a", 0}, badScript{"b x\nt y", 0}, badScript{":y\nt y\nb x\nt z", 7},
		badScript{":a\n:b\n:b\n:a", 6}, badScript{":a\n:b\n:a\n:b", 6}, badScript{"b a\n:a\n:a", 7},
	)
	checkBad(t, psed.ErrScript,
		badScript{"b x\nl", 4}, badScript{":a\n:a\nl", 6}, badScript{"b x\n{", 5}, badScript{":a\n:a\n}", 6}, badScript{"b x\n" + strings.Repeat("p\n", 60), 122},
		badScript{"b x\n:", 5},
	)
}
