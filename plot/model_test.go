package plot_test

import (
	"fmt"
	"math/rand"
	"slices"
	"strings"

	"dibber/api"
	"dibber/bed"
	"dibber/note"
	"dibber/seed"
	"dibber/turn"
	"dibber/vine"
	"dibber/weed"
)

// model is what a society should be, kept by person.
type model struct {
	people []person // in the order in which they joined
	beds   []modelBed
	spans  []api.Span
	desk   *note.Desk
	book   []string
}

// person is a member, and the plot that they have, or 0.
type person struct {
	name string
	plot int
}

type modelBed struct {
	size int
	rows [][]int
}

func newModel() *model {
	d, _ := note.New(5)
	return &model{desk: d}
}

// asked is a command with its parameters: all that are numbers, and all that are not.
type asked struct {
	command string
	n       []int
	w       []string
}

func (a asked) line() string {
	out := []string{a.command}
	switch a.command {
	case "grow":
		return fmt.Sprintf("grow %d %s %d", a.n[0], a.w[0], a.n[1])
	case "vine":
		return fmt.Sprintf("vine %s %s %d", a.w[0], a.w[1], a.n[0])
	}
	for _, n := range a.n {
		out = append(out, fmt.Sprint(n))
	}
	return strings.Join(append(out, a.w...), " ")
}

func (m *model) holder(no int) int {
	return slices.IndexFunc(m.people, func(p person) bool { return p.plot == no })
}

func (m *model) named(name string) int {
	return slices.IndexFunc(m.people, func(p person) bool { return p.name == name })
}

func (m *model) waiting() []string {
	var out []string
	for _, p := range m.people {
		if p.plot == 0 {
			out = append(out, p.name)
		}
	}
	return out
}

func (m *model) audit() api.Audit {
	a := api.Audit{Commands: len(m.book), Members: len(m.people), Waiting: len(m.waiting()), Plots: len(m.beds), Spans: len(m.spans), Good: true}
	for i, b := range m.beds {
		if m.holder(i+1) >= 0 {
			a.Let++
		}
		a.Rows += len(b.rows)
	}
	return a
}

// reply does what is asked for, and is the reply.
func (m *model) reply(a asked) string {
	result, e := m.do(a)
	if e == api.OK && strings.Contains(first, a.command) {
		m.book = append(m.book, a.line())
	}
	return replyOf(result, e)
}

func (m *model) do(a asked) (any, api.Errno) {
	switch a.command {
	case "join", "leave", "lay", "let", "queue":
		return m.member(a)
	case "bed", "sow", "next", "clear", "finish":
		if a.n[0] < 1 || a.n[0] > len(m.beds) {
			return nil, api.ErrNone
		}
		return m.bed(a, &m.beds[a.n[0]-1])
	case "type", "wipe", "note", "settle":
		return m.board(a)
	case "span", "refuse":
		return m.water(a)
	case "plan":
		plan, e := turn.Plan(24, 6, m.spans)
		return numbers(plan), e
	case "grow":
		return weed.Ring(a.n[0], a.w[0], a.n[1])
	case "take":
		return seed.Take(a.n[0], a.n[1])
	case "vine":
		return vine.Long(strings.Split(a.w[0], "."), a.w[1], a.n[0])
	case "audit":
		u := m.audit()
		return "good " + numbers([]int{u.Commands, u.Members, u.Waiting, u.Plots, u.Let, u.Rows, u.Spans}), api.OK
	}
	panic(a.command)
}

func (m *model) member(a asked) (any, api.Errno) {
	switch a.command {
	case "join":
		if m.named(a.w[0]) >= 0 {
			return nil, api.ErrExists
		}
		if len(m.people) >= 40 {
			return nil, api.ErrFull
		}
		m.people = append(m.people, person{a.w[0], 0})
		return len(m.waiting()), api.OK
	case "leave":
		i := m.named(a.w[0])
		if i < 0 {
			return nil, api.ErrNone
		}
		m.people = slices.Delete(m.people, i, i+1)
		return "ok", api.OK
	case "lay":
		m.beds = append(m.beds, modelBed{})
		return len(m.beds), api.OK
	case "let":
		if a.n[0] < 1 || a.n[0] > len(m.beds) {
			return nil, api.ErrNone
		}
		if m.holder(a.n[0]) >= 0 {
			return nil, api.ErrState
		}
		for i := range m.people {
			if m.people[i].plot == 0 {
				m.people[i].plot = a.n[0]
				return m.people[i].name, api.OK
			}
		}
		return nil, api.ErrPlan
	}
	if len(m.waiting()) == 0 {
		return "-", api.OK
	}
	return strings.Join(m.waiting(), " "), api.OK
}

func (m *model) bed(a asked, b *modelBed) (any, api.Errno) {
	if a.command == "bed" {
		if b.size > 0 || m.holder(a.n[0]) < 0 {
			return nil, api.ErrState
		}
		if a.n[1] < 1 || a.n[1] > 7 {
			return nil, api.ErrArg
		}
		b.size = a.n[1]
		return "ok", api.OK
	}
	if b.size == 0 {
		return nil, api.ErrState
	}
	switch a.command {
	case "clear":
		*b = modelBed{}
		return "ok", api.OK
	case "finish":
		return bed.Rows(b.size, b.rows)
	}
	if len(b.rows) == b.size {
		return nil, api.ErrState
	}
	if a.command == "next" {
		row, e := bed.Row(b.size, b.rows)
		b.rows = append(b.rows, row)
		return numbers(row), e
	}
	row := a.n[1:]
	if len(row) != b.size {
		return nil, api.ErrArg
	}
	if !fitsBelow(b.rows, row) {
		return nil, api.ErrPlan
	}
	b.rows = append(b.rows, row)
	return "ok", api.OK
}

// fitsBelow reports whether a row has all crops, none of them below itself.
func fitsBelow(rows [][]int, row []int) bool {
	for crop := range row {
		if !slices.Contains(row, crop) {
			return false
		}
	}
	for _, above := range rows {
		for c := range row {
			if above[c] == row[c] {
				return false
			}
		}
	}
	return true
}

func (m *model) board(a asked) (any, api.Errno) {
	if a.command == "settle" {
		return m.desk.Settle(), api.OK // in the scripts too little is typed for a full sheet
	}
	sheet, e := m.desk.Sheet(a.n[0])
	if e != api.OK {
		return nil, e
	}
	var seen []int // the places of what can be read
	text := ""
	for place, cell := range sheet {
		if !cell.Hidden {
			seen = append(seen, place)
			text += string(rune(cell.Letter))
		}
	}
	switch a.command {
	case "type":
		changes, e := note.Type(sheet, a.n[1], a.w[0], a.n[0])
		for _, c := range changes {
			m.desk.Put(a.n[0], c.At, c.Letter)
		}
		return "ok", e
	case "wipe":
		if a.n[1] < 0 || a.n[1] >= len(seen) {
			return nil, api.ErrRange
		}
		return "ok", m.desk.Hide(a.n[0], seen[a.n[1]])
	}
	if text == "" {
		return "-", api.OK
	}
	return text, api.OK
}

func (m *model) water(a asked) (any, api.Errno) {
	spans := append(slices.Clone(m.spans), api.Span{From: a.n[0], To: a.n[1], Low: a.n[2], High: a.n[3]})
	if _, e := turn.Plan(24, 6, spans[len(spans)-1:]); e != api.OK {
		return nil, e
	}
	if len(spans) > 20 {
		return nil, api.ErrFull
	}
	_, e := turn.Plan(24, 6, spans)
	if a.command == "span" {
		if e == api.OK {
			m.spans = spans
		}
		return "ok", e
	}
	if e == api.OK {
		return "ok", api.OK
	}
	ring, e := turn.Ring(24, 6, spans)
	if e != api.OK {
		return "none", api.OK
	}
	return numbers(ring), api.OK
}

// someAsked is a command at random.
func someAsked(rng *rand.Rand) asked {
	name := func() string { return nameOf(rng.Intn(12)) }
	text := func() string {
		return strings.Repeat(string(rune('a'+rng.Intn(5))), 1+rng.Intn(2)) + string(rune('a'+rng.Intn(5)))
	}
	commands := strings.Fields(first + " " + last + " join join lay let let let bed bed sow sow sow next next next span span type type wipe wipe")
	a := asked{command: commands[rng.Intn(len(commands))]}
	no := rng.Intn(7)
	switch a.command {
	case "join", "leave":
		a.w = []string{name()}
	case "let", "next", "clear", "finish", "note":
		a.n = []int{no}
	case "bed":
		a.n = []int{no, rng.Intn(9)}
	case "sow":
		a.n = append([]int{no}, rng.Perm(1+rng.Intn(7))...)
		a.n[1] = max(a.n[1], rng.Intn(20)-18)
	case "span", "refuse":
		low := rng.Intn(60) - 20
		a.n = []int{rng.Intn(6), rng.Intn(6), low, low + rng.Intn(25)}
	case "type":
		a.n, a.w = []int{rng.Intn(6), rng.Intn(4)}, []string{text()}
		if rng.Intn(10) == 0 {
			a.w[0] += "-"
		}
	case "wipe":
		a.n = []int{rng.Intn(6), rng.Intn(6) - 1}
	case "grow":
		a.n, a.w = []int{rng.Intn(260), rng.Intn(5) - 1}, []string{strings.Repeat("01", rng.Intn(3)) + "1"}
	case "take":
		a.n = []int{rng.Intn(30), rng.Intn(12)}
	case "vine":
		a.n, a.w = []int{rng.Intn(9)}, []string{text() + "." + text(), "ab"}
	}
	return a
}
