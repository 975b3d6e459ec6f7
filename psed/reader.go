package psed

import "strings"

// reader goes through a text from its begin on, and gives up at the first byte
// that cannot stand where it stands.
type reader struct {
	text  string
	at    int
	errno Errno // what giving up is told as
}

// take answers the next byte, and gives up if there is none.
func (r *reader) take() byte {
	if r.at == len(r.text) {
		r.giveUp(r.at)
	}
	r.at++
	return r.text[r.at-1]
}

// refuse gives up at the byte that was taken last.
func (r *reader) refuse() {
	r.giveUp(r.at - 1)
}

func (r *reader) giveUp(place int) {
	panic(fault{r.errno, place})
}

// takeIf takes the word if it comes next, and tells whether it did.
func (r *reader) takeIf(word string) bool {
	if !r.isNext(word) {
		return false
	}
	r.at += len(word)
	return true
}

func (r *reader) isNext(word string) bool {
	return strings.HasPrefix(r.text[r.at:], word)
}

// isNextOf tells whether there is a next byte and it is one of these.
func (r *reader) isNextOf(bytes string) bool {
	return r.at < len(r.text) && strings.IndexByte(bytes, r.text[r.at]) >= 0
}

// takeOther answers the next byte, and gives up if it is one of these.
func (r *reader) takeOther(bytes string) byte {
	if r.isNextOf(bytes) {
		r.giveUp(r.at)
	}
	return r.take()
}

// takeOneOf answers the next byte, and gives up if it is none of these.
func (r *reader) takeOneOf(bytes string) byte {
	b := r.take()
	if strings.IndexByte(bytes, b) < 0 {
		r.refuse()
	}
	return b
}
