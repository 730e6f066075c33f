package plot

import (
	"strconv"
	"strings"

	"dibber/api"
)

// What a line asks for is nil if it has no words, and otherwise told apart by its type.
type (
	fault   string // the line can't be understood: its reply
	change  order  // a command of the first part of the table
	look    order  // another command
	suppose string // the command that comes after if
)

// order is a command with its parameters, and its words with one blank between any two.
type order struct {
	do     func(*Society, []param) string
	params []param
	line   string
}

// param is a parameter, and its number if it is one.
type param struct {
	word   string
	number int
}

// kind is what a parameter must be.
type kind int

const (
	word kind = iota
	name
	number
)

const (
	noLine = fault("? line")

	maxNumber = 1 << 50
	maxName   = 8
)

// parse returns what a line asks for.
func parse(line string) any {
	words := strings.FieldsFunc(line, isBlank)
	if len(words) == 0 {
		return nil
	}
	if len(line) > api.MaxLine || strings.ContainsFunc(line, isStrange) {
		return noLine
	}
	if words[0] == "if" && len(words) > 1 {
		return suppose(strings.Join(words[1:], " "))
	}
	c, ok := commands()[words[0]]
	if !ok || !c.takes(len(words)-1) {
		return noLine
	}
	params, wrong := c.read(words[1:])
	if wrong > 0 {
		return fault("? word " + strconv.Itoa(wrong))
	}
	o := order{c.do, params, strings.Join(words, " ")}
	if c.changes {
		return change(o)
	}
	return look(o)
}

func isBlank(r rune) bool {
	return r == ' '
}

// isStrange reports whether a line can't have a character; each byte above 126 is one, or a part of one, that it can't have.
func isStrange(r rune) bool {
	return r < ' ' || r > '~'
}

// takes reports whether a command has so many parameters.
func (c command) takes(count int) bool {
	return count >= len(c.kinds) && count <= len(c.kinds)+c.more
}

// read returns the parameters of a command, and 0 or the number of the first one that is not of its kind.
func (c command) read(words []string) ([]param, int) {
	var out []param
	for i, text := range words {
		p, ok := c.kinds[min(i, len(c.kinds)-1)].read(text)
		if !ok {
			return nil, i + 1
		}
		out = append(out, p)
	}
	return out, 0
}

func (k kind) read(text string) (param, bool) {
	switch k {
	case name:
		return param{word: text}, isName(text)
	case number:
		n, ok := readNumber(text)
		return param{text, n}, ok
	}
	return param{word: text}, true
}

func isName(text string) bool {
	for i := range len(text) {
		if text[i] < 'a' || text[i] > 'z' {
			return false
		}
	}
	return len(text) > 0 && len(text) <= maxName
}

// readNumber reads a number that is written in the one way in which Itoa writes it: without a plus, without needless zeros.
func readNumber(text string) (int, bool) {
	n, wrong := strconv.Atoi(text)
	ok := wrong == nil && strconv.Itoa(n) == text && n >= -maxNumber && n <= maxNumber
	return n, ok
}
