package psed

import (
	"strconv"
	"strings"
)

// doing has what each command does, by its letter. It is filled at start-up.
var doing [128]func(*editor, *task)

func init() {
	doing = [128]func(*editor, *task){
		'{': (*editor).pass,
		'}': (*editor).pass,
		':': (*editor).pass,
		'b': (*editor).goBehind,
		't': (*editor).goIfChanged,
		'=': (*editor).putNumber,
		'a': (*editor).putTextLater,
		'i': (*editor).putText,
		'c': (*editor).putTextInstead,
		'd': (*editor).drop,
		'D': (*editor).dropFirst,
		'g': (*editor).get,
		'G': (*editor).getBehind,
		'h': (*editor).hold,
		'H': (*editor).holdBehind,
		'x': (*editor).swap,
		'n': (*editor).next,
		'N': (*editor).nextBehind,
		'p': (*editor).print,
		'P': (*editor).printFirst,
		'q': (*editor).quit,
		'Q': (*editor).quitAtOnce,
		's': (*editor).replace,
		'w': (*editor).write,
		'y': (*editor).exchange,
	}
}

func (e *editor) pass(*task) {}

func (e *editor) goIfChanged(t *task) {
	if e.changed {
		e.changed = false
		e.goBehind(t)
	}
}

func (e *editor) putNumber(*task) {
	e.putLine(strconv.Itoa(e.number))
}

func (e *editor) putTextLater(t *task) {
	e.later = append(e.later, t.text)
}

func (e *editor) putText(t *task) {
	e.putLine(t.text)
}

func (e *editor) putTextInstead(t *task) {
	e.putText(t)
	e.drop(t)
}

func (e *editor) drop(*task) {
	e.putLater()
	e.end = endsCycle
}

func (e *editor) dropFirst(t *task) {
	_, rest, found := strings.Cut(e.pattern, "\n")
	if found {
		e.pattern = rest
		e.again = true
	}
	e.drop(t)
}

func (e *editor) get(*task) {
	e.pattern = e.held
}

func (e *editor) getBehind(*task) {
	e.pattern += "\n" + e.held
}

func (e *editor) hold(*task) {
	e.held = e.pattern
}

func (e *editor) holdBehind(*task) {
	e.held += "\n" + e.pattern
}

func (e *editor) swap(*task) {
	e.pattern, e.held = e.held, e.pattern
}

func (e *editor) next(*task) {
	e.finish()
	if e.hasNext() {
		e.pattern = e.read()
	} else {
		e.end = endsCycle // and the file, which has no line for another one
	}
}

func (e *editor) nextBehind(t *task) {
	if !e.hasNext() {
		e.next(t)
		return
	}
	e.putLater()
	e.pattern += "\n" + e.read()
}

func (e *editor) print(*task) {
	e.putLine(e.pattern)
}

func (e *editor) printFirst(*task) {
	first, _, _ := strings.Cut(e.pattern, "\n")
	e.putLine(first)
}

func (e *editor) quit(t *task) {
	e.finish()
	e.quitAtOnce(t)
}

func (e *editor) quitAtOnce(t *task) {
	e.end = endsRun
	e.status = t.status
}

func (e *editor) replace(t *task) {
	text, found := t.change.made(t.finder, e.pattern)
	if !found {
		return
	}
	e.pattern = text
	e.changed = true
	if t.change.print {
		e.print(t)
	}
	if t.name != "" {
		e.write(t)
	}
}

func (e *editor) write(t *task) {
	e.put(t.name, e.pattern+"\n")
}

func (e *editor) exchange(t *task) {
	text := []byte(e.pattern)
	for i, b := range text {
		if which := strings.IndexByte(t.from, b); which >= 0 {
			text[i] = t.to[which]
		}
	}
	e.pattern = string(text)
}

// made answers a text with its matches replaced, and whether there was one to
// be replaced.
func (s *substitution) made(m *matcher, text string) (string, bool) {
	var all strings.Builder
	matches, done := 0, 0
	for spans := range m.all(text) {
		matches++
		if matches < s.first {
			continue
		}
		all.WriteString(text[done:spans[0]])
		s.write(&all, text, spans)
		done = spans[1]
		if !s.all {
			break
		}
	}
	all.WriteString(text[done:])
	return all.String(), matches >= s.first
}

// write lays the replacement of one match behind what is there already.
func (s *substitution) write(all *strings.Builder, text string, spans []int) {
	for _, p := range s.pieces {
		switch {
		case p.group == noGroup:
			all.WriteString(p.text)
		case spans[2*p.group] >= 0:
			all.WriteString(text[spans[2*p.group]:spans[2*p.group+1]])
		}
	}
}
