package psed

import "math"

const (
	maxGroups = 9
	noPart    = -1          // where a list of parts ends
	anyNumber = math.MaxInt // a count without an upper bound
)

// expression is an expression that has been read. Its parts, those within
// groups too, stand in one list, so that a part is known by its number.
type expression struct {
	onlyBegin bool // ^
	onlyEnd   bool // $
	parts     []part
	first     int // the first part outside of all groups
	groups    int
}

// part is an atom and its count. The atom is a group if group is not 0, else
// one of the bytes.
type part struct {
	bytes       byteSet
	group       int
	inner       int // the first part within the group
	next        int // the part behind this one
	least, most int
}

// counted answers which number stands for that many copies: without an upper
// bound, all numbers from the least on mean the same.
func (p *part) counted(copies int) int {
	if p.most == anyNumber {
		return min(copies, p.least)
	}
	return copies
}

// exprReader reads an expression.
type exprReader struct {
	reader
	parts  []part
	groups int
}

// readExpr reads a text that is an expression as a whole, and gives up if it
// is none.
func readExpr(text string) *expression {
	r := &exprReader{reader: reader{text: text, errno: ErrExpr}}
	x := r.expression()
	if r.at < len(text) {
		r.giveUp(r.at)
	}
	return x
}

// expression reads up to the first byte that cannot belong to it: what may
// stand there, its caller knows.
func (r *exprReader) expression() *expression {
	onlyBegin := r.takeIf("^")
	first := r.list(func() bool { return r.at == len(r.text) || r.isNextOf("*/^$\n") })
	onlyEnd := r.takeIf("$")
	return &expression{onlyBegin, onlyEnd, r.parts, first, r.groups}
}

// list reads parts until it is told to be at the end, and answers the first.
func (r *exprReader) list(atEnd func() bool) int {
	first, last := noPart, noPart
	for !atEnd() {
		i := r.part()
		if last == noPart {
			first = i
		} else {
			r.parts[last].next = i
		}
		last = i
	}
	return first
}

// part reads a part and answers its number.
func (r *exprReader) part() int {
	i := len(r.parts)
	r.parts = append(r.parts, part{})
	p := r.atom()
	p.least, p.most = r.count()
	p.next = noPart
	r.parts[i] = p
	return i
}

func (r *exprReader) atom() part {
	switch b := r.takeOther("*/^$\n"); b {
	case '.':
		return part{bytes: byteSet{}.others()}
	case '[':
		return part{bytes: r.class()}
	case '\\':
		return r.escaped()
	default:
		return part{bytes: oneByte(b)}
	}
}

// escaped reads what may stand behind a `\`.
func (r *exprReader) escaped() part {
	switch b := r.takeOneOf(`.[]*^$\/n(`); b {
	case 'n':
		return part{bytes: oneByte('\n')}
	case '(':
		return r.group()
	default:
		return part{bytes: oneByte(b)}
	}
}

// group reads what may stand behind a `\(`, with the `\)`.
func (r *exprReader) group() part {
	if r.groups == maxGroups {
		r.refuse()
	}
	r.groups++
	number := r.groups
	inner := r.list(func() bool { return r.takeIf(`\)`) })
	return part{group: number, inner: inner}
}

// class reads what may stand behind a `[`, with the `]`.
func (r *exprReader) class() byteSet {
	inverted := r.takeIf("^")
	set := r.item()
	for !r.takeIf("]") {
		set = set.with(r.item())
	}
	if inverted {
		return set.others()
	}
	return set
}

func (r *exprReader) item() byteSet {
	const never = "\\]/-\n"
	low := r.takeOther(never)
	if !r.takeIf("-") {
		return oneByte(low)
	}
	high := r.takeOther(never)
	if high < low {
		r.refuse()
	}
	return byteRange(low, high)
}

// count reads a count, if there is one: how many copies there are at least and
// at most.
func (r *exprReader) count() (int, int) {
	if r.takeIf("*") {
		return 0, anyNumber
	}
	if !r.takeIf(`\{`) {
		return 1, 1
	}
	least := r.digit(0)
	most := least
	if r.takeIf(",") {
		most = anyNumber
		if !r.isNext(`\`) {
			most = r.digit(least)
		}
	}
	r.takeOneOf(`\`)
	r.takeOneOf("}")
	return least, most
}

// digit reads a digit that is not below the least.
func (r *exprReader) digit(least int) int {
	value := int(r.takeOneOf(digits) - '0')
	if value < least {
		r.refuse()
	}
	return value
}
