package plot

import (
	"slices"

	"dibber/api"
	"dibber/turn"
)

const (
	round = 24
	taps  = api.MaxEvents
)

// withSpan returns all spans and one more, or refuses the command if that is not valid, or there are too many.
func (s *Society) withSpan(p []param) []api.Span {
	more := api.Span{From: p[0].number, To: p[1].number, Low: p[2].number, High: p[3].number}
	_, e := turn.Free(round, taps, []api.Span{more})
	must(e)
	ensure(len(s.spans) < api.MaxSpans, api.ErrFull)
	return append(slices.Clone(s.spans), more)
}

func (s *Society) addSpan(p []param) string {
	spans := s.withSpan(p)
	_, e := turn.Plan(round, taps, spans)
	must(e)
	s.spans = spans
	return done
}

func (s *Society) plan([]param) string {
	plan, e := turn.Plan(round, taps, s.spans)
	must(e)
	return listed(plan)
}

func (s *Society) refuse(p []param) string {
	spans := s.withSpan(p)
	if _, e := turn.Plan(round, taps, spans); e == api.OK {
		return done
	}
	ring, e := turn.Ring(round, taps, spans)
	if e != api.OK {
		return "none"
	}
	return listed(ring)
}
