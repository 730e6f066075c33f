package plot

import (
	"strconv"
	"strings"

	"dibber/api"
)

// command is a line of the table: the kinds of its parameters, how many more of the last kind there may be, whether it is of
// the first part, and what it does.
type command struct {
	kinds   []kind
	more    int
	changes bool
	do      func(*Society, []param) string
}

// commands are all but if, by their names.
func commands() map[string]command {
	return map[string]command{
		"join":   {[]kind{name}, 0, true, (*Society).join},
		"leave":  {[]kind{name}, 0, true, (*Society).leave},
		"lay":    {nil, 0, true, (*Society).lay},
		"let":    {[]kind{number}, 0, true, (*Society).let},
		"bed":    {[]kind{number, number}, 0, true, (*Society).giveBed},
		"sow":    {[]kind{number, number}, api.MaxCrops - 1, true, (*Society).sow},
		"next":   {[]kind{number}, 0, true, (*Society).sowNext},
		"clear":  {[]kind{number}, 0, true, (*Society).clearBed},
		"span":   {[]kind{number, number, number, number}, 0, true, (*Society).addSpan},
		"type":   {[]kind{number, number, word}, 0, true, (*Society).typeWord},
		"wipe":   {[]kind{number, number}, 0, true, (*Society).wipe},
		"settle": {nil, 0, true, (*Society).settle},

		"queue":  {nil, 0, false, (*Society).tellQueue},
		"plan":   {nil, 0, false, (*Society).plan},
		"refuse": {[]kind{number, number, number, number}, 0, false, (*Society).refuse},
		"finish": {[]kind{number}, 0, false, (*Society).finish},
		"note":   {[]kind{number}, 0, false, (*Society).tellNote},
		"grow":   {[]kind{number, word, number}, 0, false, (*Society).grow},
		"take":   {[]kind{number, number}, 0, false, (*Society).take},
		"vine":   {[]kind{word, word, number}, 0, false, (*Society).vine},
		"audit":  {nil, 0, false, (*Society).tellAudit},
	}
}

// done is the reply of a command that has nothing to tell.
const done = "ok"

// refusal is what a command panics with if it is refused, before it has changed anything.
type refusal api.Errno

// must refuses the command with an error, unless that is OK.
func must(e api.Errno) {
	if e != api.OK {
		panic(refusal(e))
	}
}

// ensure refuses the command with an error, unless a condition holds.
func ensure(ok bool, e api.Errno) {
	if !ok {
		must(e)
	}
}

// reply does what a line asks for, and returns the reply.
func (s *Society) reply(asked any) string {
	switch a := asked.(type) {
	case fault:
		return string(a)
	case suppose:
		return s.Copy().Exec(string(a))
	case look:
		return told(s.carryOut(order(a)))
	case change:
		return told(s.change(a))
	}
	return ""
}

func told(reply string, e api.Errno) string {
	if e != api.OK {
		return "! " + strconv.Itoa(int(e))
	}
	return reply
}

// carryOut does what an order asks for, and returns the reply, or the error with which it was refused.
func (s *Society) carryOut(o order) (reply string, e api.Errno) {
	defer func() {
		if why, ok := recover().(refusal); ok {
			e = api.Errno(why)
		}
	}()
	return o.do(s, o.params), api.OK
}

// change carries out a command of the first part, and adds it to the book.
func (s *Society) change(c change) (string, api.Errno) {
	if len(s.book) == api.MaxBook {
		return "", s.Copy().refused(c)
	}
	reply, e := s.carryOut(order(c))
	if e == api.OK {
		s.book = append(s.book, c.line)
	}
	return reply, e
}

// refused returns why a command is refused that the book has no place for: it carries it out, as all its other errors come
// before ErrFull.
func (s *Society) refused(c change) api.Errno {
	if _, e := s.carryOut(order(c)); e != api.OK {
		return e
	}
	return api.ErrFull
}

// listed returns numbers with a blank between any two.
func listed(numbers []int) string {
	var words []string
	for _, n := range numbers {
		words = append(words, strconv.Itoa(n))
	}
	return strings.Join(words, " ")
}
