package script

import (
	"strconv"
	"strings"

	"causeway/api"
)

// mostNumber that a line can tell: it has five digits at most.
const mostNumber = 99999

// words of a line behind the name of its command: its numbers, and its keys and
// texts, each in their order.
type words struct {
	numbers []int
	texts   []string
}

// kind of a word: is s one? Then it is added to those ahead of it.
type kind func(w *words, s string) bool

func digit(w *words, s string) bool {
	return len(s) == 1 && number(w, s)
}

// number, spelt as it would be told: so it has neither a sign nor needless zeros.
func number(w *words, s string) bool {
	n, err := strconv.Atoi(s)
	if err != nil || n < 0 || n > mostNumber || strconv.Itoa(n) != s {
		return false
	}
	w.numbers = append(w.numbers, n)
	return true
}

// text, or key. How long it may be is for the store to say.
func text(w *words, s string) bool {
	if s == "" || strings.ContainsFunc(s, isNoneOfText) {
		return false
	}
	w.texts = append(w.texts, s)
	return true
}

func isNoneOfText(r rune) bool {
	return (r < 'a' || r > 'z') && (r < '0' || r > '9')
}

// read a line: its command, and the words that this one takes.
func read(commands map[string]command, line string) (command, words, error) {
	name, rest, more := strings.Cut(line, " ")
	c, is := commands[name]
	if !is {
		return command{}, words{}, api.ErrText
	}
	var w words
	for _, isOne := range c.takes {
		if !more {
			return command{}, words{}, api.ErrText
		}
		var s string
		s, rest, more = strings.Cut(rest, " ")
		if !isOne(&w, s) {
			return command{}, words{}, api.ErrText
		}
	}
	if more {
		return command{}, words{}, api.ErrText
	}
	return c, w, nil
}
