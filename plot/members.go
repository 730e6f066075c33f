package plot

import (
	"slices"
	"strconv"
	"strings"

	"dibber/api"
)

// nothing is the reply that tells of an empty list or note.
const nothing = "-"

// members returns the names of all who wait, and of all who have a plot.
func (s *Society) members() []string {
	out := slices.Clone(s.waiting)
	for _, p := range s.plots {
		if isLet(p) {
			out = append(out, p.Member)
		}
	}
	return out
}

func isLet(p api.Plot) bool {
	return p.Member != ""
}

func (s *Society) hasPlot(no int) bool {
	return no >= 1 && no <= len(s.plots)
}

// plot returns the plot with a number, or refuses the command.
func (s *Society) plot(no int) *api.Plot {
	ensure(s.hasPlot(no), api.ErrNone)
	return &s.plots[no-1]
}

func (s *Society) join(p []param) string {
	members := s.members()
	ensure(!slices.Contains(members, p[0].word), api.ErrExists)
	ensure(len(members) < api.MaxPeople, api.ErrFull)
	s.waiting = append(s.waiting, p[0].word)
	return strconv.Itoa(len(s.waiting))
}

func (s *Society) leave(p []param) string {
	gone := p[0].word
	ensure(slices.Contains(s.members(), gone), api.ErrNone)
	s.waiting = slices.DeleteFunc(s.waiting, func(name string) bool { return name == gone })
	for i := range s.plots {
		if s.plots[i].Member == gone {
			s.plots[i].Member = ""
		}
	}
	return done
}

func (s *Society) lay([]param) string {
	ensure(len(s.plots) < api.MaxPlots, api.ErrFull)
	no := len(s.plots) + 1
	s.plots = append(s.plots, api.Plot{No: no})
	return strconv.Itoa(no)
}

func (s *Society) let(p []param) string {
	plot := s.plot(p[0].number)
	ensure(!isLet(*plot), api.ErrState)
	ensure(len(s.waiting) > 0, api.ErrPlan)
	plot.Member = s.waiting[0]
	s.waiting = s.waiting[1:]
	return plot.Member
}

func (s *Society) tellQueue([]param) string {
	if len(s.waiting) == 0 {
		return nothing
	}
	return strings.Join(s.waiting, " ")
}
