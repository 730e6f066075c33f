package plot

import (
	"slices"

	"dibber/api"
	"dibber/turn"
)

// Audit counts what the society has, and returns whether all is as it should be.
func (s *Society) Audit() api.Audit {
	if s.isNone() {
		return api.Audit{}
	}
	members := s.members()
	out := api.Audit{
		Commands: len(s.book),
		Members:  len(members),
		Waiting:  len(s.waiting),
		Plots:    len(s.plots),
		Let:      len(members) - len(s.waiting),
		Spans:    len(s.spans),
	}
	for _, p := range s.plots {
		out.Rows += len(p.Rows)
	}
	out.Good = allDiffer(members) && s.bedsGood() && s.waterGood()
	return out
}

// allDiffer reports whether no name is there twice: who is twice among those who wait or have a plot has more than one of these.
func allDiffer(names []string) bool {
	sorted := slices.Sorted(slices.Values(names))
	return len(slices.Compact(sorted)) == len(names)
}

// bedsGood reports whether all beds can be finished.
func (s *Society) bedsGood() bool {
	for _, p := range s.plots {
		if p.Size > 0 && !isStart(p.Size, p.Rows) {
			return false
		}
	}
	return true
}

// waterGood reports whether there is a plan.
func (s *Society) waterGood() bool {
	_, e := turn.Plan(round, taps, s.spans)
	return e == api.OK
}

func (s *Society) tellAudit([]param) string {
	a := s.Audit()
	verdict := "bad "
	if a.Good {
		verdict = "good "
	}
	return verdict + listed([]int{a.Commands, a.Members, a.Waiting, a.Plots, a.Let, a.Rows, a.Spans})
}
