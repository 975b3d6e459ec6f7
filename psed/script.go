package psed

import "strings"

const (
	maxDigits = 4 // of a line's number
	maxWord   = 8 // letters of a label, or of a name
	noGroup   = -1

	digits       = "0123456789"
	digitsFrom1  = "123456789"
	smallLetters = "abcdefghijklmnopqrstuvwxyz"
	allCommands  = "{}:bt=aicdDgGhHxnNpPqQswy"
	noAddress    = "}:" // the commands that take none
)

// command is a command that has been read.
type command struct {
	letter    byte
	place     int       // of the letter in the script
	addresses []address // none, one, or the two of a range
	not       bool      // !
	plain     string    // the command without the blanks that need not be
	target    int       // { : its }; b, t: the command of the label, or the number of all
	label     string    // : b t
	text      string    // a i c
	status    int       // q Q
	name      string    // w, and s with that flag
	change    *substitution
	from, to  string // y
}

// address is a line's number, or an expression; the last line, if it has
// neither.
type address struct {
	line int
	expr *expression
}

// substitution is what stands behind the letter s, but for a name.
type substitution struct {
	expr   *expression
	pieces []piece
	first  int // which match is the first that is replaced
	all    bool
	print  bool
}

// piece is of a replacement: a text, or, if it is not noGroup, what a group
// spans; group 0 is all that was matched.
type piece struct {
	text  string
	group int
}

// scriptReader reads a script.
type scriptReader struct {
	reader
	commands []command
	open     []int // the { that are not ended, by their numbers
}

// readScript reads a text that is a script as a whole, and gives up if it is
// none.
func readScript(text string) []command {
	r := &scriptReader{reader: reader{text: text, errno: ErrScript}}
	for r.at < len(text) {
		r.line()
	}
	if len(r.open) > 0 {
		r.giveUp(r.at)
	}
	r.findLabels()
	return r.commands
}

func (r *scriptReader) line() {
	r.blanks()
	if r.at < len(r.text) && !r.isNext("\n") {
		r.command()
	}
	if r.at < len(r.text) {
		r.takeOneOf("\n")
	}
}

func (r *scriptReader) blanks() {
	for r.takeIf(" ") {
	}
}

func (r *scriptReader) command() {
	var c command
	begin := r.at
	c.addresses = r.addresses()
	which := r.text[begin:r.at]
	r.blanks()
	if c.not = r.takeIf("!"); c.not {
		which += "!"
	}
	c.place = r.at
	c.letter = r.letter(which != "")
	r.behindLetter(&c)
	c.plain = which + r.text[c.place:r.at]
	r.commands = append(r.commands, c)
}

func (r *scriptReader) addresses() []address {
	if !r.isNextOf(digitsFrom1 + "$/") {
		return nil
	}
	all := []address{r.address()}
	if r.takeIf(",") {
		all = append(all, r.address())
	}
	return all
}

func (r *scriptReader) address() address {
	switch b := r.takeOneOf(digitsFrom1 + "$/"); b {
	case '$':
		return address{}
	case '/':
		return address{expr: r.expression()}
	default:
		return address{line: r.number(b)}
	}
}

// number reads what may stand behind the first digit of a line's number.
func (r *scriptReader) number(first byte) int {
	value := int(first - '0')
	for count := 1; count < maxDigits && r.isNextOf(digits); count++ {
		value = 10*value + int(r.take()-'0')
	}
	return value
}

// expression reads an expression and the `/` behind it. Its reader is not shown
// more bytes than an expression may have: where these end too early, there is
// the first byte too many.
func (r *scriptReader) expression() *expression {
	inner := exprReader{reader: r.reader}
	inner.text = r.text[:min(len(r.text), r.at+maxExpr)]
	x := inner.expression()
	r.at = inner.at
	r.takeOneOf("/")
	return x
}

// letter reads a command's letter, ahead of which there may be something that
// tells to which lines it belongs.
func (r *scriptReader) letter(someLines bool) byte {
	b := r.takeOneOf(allCommands)
	if len(r.commands) == maxCmds || someLines && strings.IndexByte(noAddress, b) >= 0 {
		r.refuse()
	}
	return b
}

// behindLetter reads what stands behind a command's letter.
func (r *scriptReader) behindLetter(c *command) {
	switch c.letter {
	case '{':
		r.beginBlock()
	case '}':
		r.endBlock()
	case ':':
		c.label = r.word()
	case 'b', 't':
		if r.takeIf(" ") {
			c.label = r.word()
		}
	case 'a', 'i', 'c':
		c.text = r.lineOfText()
	case 'q', 'Q':
		if r.isNextOf(digits) {
			c.status = int(r.take() - '0')
		}
	case 's':
		c.change = r.substitution()
		if r.takeIf("w") {
			c.name = r.name()
		}
	case 'w':
		c.name = r.name()
	case 'y':
		c.from, c.to = r.exchange()
	}
}

func (r *scriptReader) beginBlock() {
	if len(r.open) == maxNest {
		r.refuse()
	}
	r.open = append(r.open, len(r.commands))
}

func (r *scriptReader) endBlock() {
	last := len(r.open) - 1
	if last < 0 {
		r.refuse()
	}
	r.commands[r.open[last]].target = len(r.commands)
	r.open = r.open[:last]
}

// word reads a label, or a name without the blank ahead of it.
func (r *scriptReader) word() string {
	begin := r.at
	r.takeOneOf(smallLetters)
	for r.at < begin+maxWord && r.isNextOf(smallLetters) {
		r.take()
	}
	return r.text[begin:r.at]
}

func (r *scriptReader) name() string {
	r.takeOneOf(" ")
	return r.word()
}

func (r *scriptReader) lineOfText() string {
	r.takeOneOf(" ")
	text, _, _ := strings.Cut(r.text[r.at:], "\n")
	r.at += len(text)
	return text
}

// substitution reads what may stand behind the letter s, but for the flag w.
func (r *scriptReader) substitution() *substitution {
	r.takeOneOf("/")
	s := &substitution{expr: r.expression(), first: 1}
	for !r.takeIf("/") {
		s.pieces = append(s.pieces, r.piece(s.expr.groups))
	}
	if r.isNextOf(digitsFrom1) {
		s.first = int(r.take() - '0')
	}
	s.all = r.takeIf("g")
	s.print = r.takeIf("p")
	return s
}

// piece reads a piece of a replacement for an expression with that many groups.
func (r *scriptReader) piece(groups int) piece {
	switch r.takeOther("\n") {
	case '&':
		return piece{group: 0}
	case '\\':
		return r.escapedPiece(groups)
	default:
		return piece{text: r.text[r.at-1 : r.at], group: noGroup}
	}
}

func (r *scriptReader) escapedPiece(groups int) piece {
	switch b := r.takeOneOf(digitsFrom1 + `n&\/`); b {
	case 'n':
		return piece{text: "\n", group: noGroup}
	case '&', '\\', '/':
		return piece{text: r.text[r.at-1 : r.at], group: noGroup}
	default:
		group := int(b - '0')
		if group > groups {
			r.refuse()
		}
		return piece{group: group}
	}
}

// exchange reads what may stand behind the letter y: which bytes become which.
func (r *scriptReader) exchange() (from, to string) {
	r.takeOneOf("/")
	begin := r.at
	for !r.isNext("/") {
		b := r.takeOther("\\\n")
		if strings.IndexByte(r.text[begin:r.at-1], b) >= 0 {
			r.refuse()
		}
	}
	from = r.text[begin:r.at]
	r.takeOneOf("/")
	begin = r.at
	for range len(from) {
		r.takeOther("/\\\n")
	}
	to = r.text[begin:r.at]
	r.takeOneOf("/")
	return from, to
}

// findLabels finds where each b and t goes to, and gives up at the first label
// that is a place twice, or none. Only a text that is else a script has labels,
// so that this waits until all of it has been read.
func (r *scriptReader) findLabels() {
	r.errno = ErrLabel
	places := r.labelPlaces()
	for i := range r.commands {
		c := &r.commands[i]
		switch c.letter {
		case ':':
			if places[c.label] < i {
				r.giveUp(c.place)
			}
		case 'b', 't':
			c.target = r.targetOf(c, places)
		}
	}
}

// labelPlaces answers of each label the number of the first command that makes
// it a place.
func (r *scriptReader) labelPlaces() map[string]int {
	places := map[string]int{}
	for i, c := range r.commands {
		if _, twice := places[c.label]; c.letter == ':' && !twice {
			places[c.label] = i
		}
	}
	return places
}

func (r *scriptReader) targetOf(c *command, places map[string]int) int {
	if c.label == "" {
		return len(r.commands)
	}
	target, ok := places[c.label]
	if !ok {
		r.giveUp(c.place)
	}
	return target
}

// plainScript writes commands in their plain form, each on a line.
func plainScript(commands []command) string {
	var all strings.Builder
	for _, c := range commands {
		all.WriteString(c.plain)
		all.WriteByte('\n')
	}
	return all.String()
}
