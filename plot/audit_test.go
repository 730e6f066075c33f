package plot

import (
	"strings"
	"testing"

	"dibber/api"
)

// No command makes a society that is not good, so these are made by hand.
func TestBadAudit(t *testing.T) {
	for why, spoil := range map[string]func(s *Society){
		"waits and has a plot": func(s *Society) { s.waiting = append(s.waiting, "ann") },
		"waits twice":          func(s *Society) { s.waiting = append(s.waiting, "bob") },
		"has two plots":        func(s *Society) { s.plots[1].Member = "ann" },
		"a crop twice":         func(s *Society) { s.plots[0].Rows = [][]int{{0, 1, 2}, {0, 2, 1}} },
		"a bed behind":         func(s *Society) { s.plots[1].Size, s.plots[1].Rows = 2, [][]int{{0, 0}} },
		"no plan":              func(s *Society) { s.spans = []api.Span{{From: 0, To: 1}, {From: 1, To: 0, Low: 1, High: 1}} },
	} {
		s := New()
		s.Run("join ann\njoin bob\nlay\nlay\nlet 1\nbed 1 3\nnext 1")
		if reply := s.Exec("audit"); !s.Audit().Good || reply != "good 7 2 1 2 1 1 0" {
			t.Error(why, reply)
		}
		spoil(s)
		if reply := s.Exec("audit"); s.Audit().Good || !strings.HasPrefix(reply, "bad 7 ") {
			t.Error(why, reply)
		}
	}
}
