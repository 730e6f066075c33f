package plot_test

import (
	"fmt"
	"math"
	"slices"
	"strings"
	"testing"

	"dibber/api"
	"dibber/plot"
)

func TestNew(t *testing.T) {
	s := plot.New()
	if a := s.Audit(); a != (api.Audit{Good: true}) {
		t.Error(a)
	}
	if len(s.Book()) != 0 || len(s.Queue()) != 0 || s.Note() != "" {
		t.Error(s.Book(), s.Queue(), s.Note())
	}
	wantReplies(t, s, exchange{"queue", "-"}, exchange{"plan", "0 0 0 0 0 0"}, exchange{"note 0", "-"}, exchange{"note 4", "-"}, exchange{"note 5", "! 2"}, exchange{"audit", "good 0 0 0 0 0 0 0"}, exchange{"if settle", "0"})
	if other := plot.New(); other == s {
		t.Error("the same society twice")
	}
}

func TestJoin(t *testing.T) {
	s := plot.New()
	wantReplies(t, s, exchange{"join ann", "1"}, exchange{"join bob", "2"}, exchange{"join cy", "3"}, exchange{"queue", "ann bob cy"})
	wantNone(t, s, exchange{"join ann", "! 7"}, exchange{"join bob", "! 7"}, exchange{"join cy", "! 7"})
	wantReplies(t, s, exchange{"lay", "1"}, exchange{"let 1", "ann"}, exchange{"join dan", "3"}, exchange{"queue", "bob cy dan"})
	wantNone(t, s, exchange{"join ann", "! 7"})
	wantReplies(t, s, exchange{"leave ann", "ok"}, exchange{"join ann", "4"}, exchange{"queue", "bob cy dan ann"})
}

// There are 40 members at most, whether they wait or have plots.
func TestManyMembers(t *testing.T) {
	for _, plots := range []int{0, 1, 39, 40} {
		s := plot.New()
		for i := range 40 {
			wantReply(t, s, "join "+nameOf(i), fmt.Sprint(i+1))
		}
		for no := 1; no <= plots; no++ {
			do(t, s, "lay", fmt.Sprint("let ", no))
		}
		wantNone(t, s, exchange{"join zoe", "! 8"}, exchange{"join " + nameOf(0), "! 7"}, exchange{"join " + nameOf(39), "! 7"})
		wantReplies(t, s, exchange{"leave " + nameOf(7), "ok"}, exchange{"leave " + nameOf(39), "ok"})
		do(t, s, "join zoe", "join "+nameOf(7))
		wantNone(t, s, exchange{"join " + nameOf(39), "! 8"})
		if a := s.Audit(); !a.Good || a.Members != 40 {
			t.Error(a)
		}
	}
}

func TestLeave(t *testing.T) {
	s := after(t, "join ann", "join bob", "join cy", "join dan", "lay", "let 1", "bed 1 2", "sow 1 1 0")
	wantNone(t, s, exchange{"leave zoe", "! 6"}, exchange{"leave an", "! 6"}, exchange{"leave annn", "! 6"})
	wantReplies(t, s, exchange{"leave cy", "ok"}, exchange{"queue", "bob dan"}, exchange{"leave ann", "ok"}, exchange{"queue", "bob dan"})
	wantNone(t, s, exchange{"leave ann", "! 6"}, exchange{"leave cy", "! 6"})
	if p, e := s.Plot(1); p.Member != "" || p.Size != 2 || fmt.Sprint(p.Rows) != "[[1 0]]" || e != api.OK {
		t.Error(p, e)
	}
	// The bed has stayed, and is had by whoever is next.
	wantReplies(t, s, exchange{"bed 1 2", "! 9"}, exchange{"finish 1", "1"}, exchange{"let 1", "bob"}, exchange{"bed 1 2", "! 9"}, exchange{"next 1", "0 1"})
	if a := s.Audit(); a != (api.Audit{Commands: 12, Members: 2, Waiting: 1, Plots: 1, Let: 1, Rows: 2, Good: true}) {
		t.Error(a)
	}
}

func TestLay(t *testing.T) {
	s := plot.New()
	for no := 1; no <= 400; no++ {
		wantReply(t, s, "lay", fmt.Sprint(no))
		if p, e := s.Plot(no); p.No != no || p.Member != "" || p.Size != 0 || len(p.Rows) != 0 || e != api.OK {
			t.Fatal(p, e)
		}
	}
	wantNone(t, s, exchange{"lay", "! 8"})
	do(t, s, "join ann")
	wantReplies(t, s, exchange{"let 401", "! 6"}, exchange{"let 400", "ann"}, exchange{"bed 400 7", "ok"}, exchange{"next 400", "0 1 2 3 4 5 6"})
	if a := s.Audit(); a != (api.Audit{Commands: 404, Members: 1, Plots: 400, Let: 1, Rows: 1, Good: true}) {
		t.Error(a)
	}
}

func TestLet(t *testing.T) {
	s := after(t, "lay", "lay")
	wantNone(t, s, exchange{"let 0", "! 6"}, exchange{"let 3", "! 6"}, exchange{"let -1", "! 6"}, exchange{"let 1", "! 10"}, exchange{"let 2", "! 10"})
	do(t, s, "join ann")
	wantReply(t, s, "let 2", "ann")
	// The errors come in their order, also where nobody waits.
	wantNone(t, s, exchange{"let 3", "! 6"}, exchange{"let 2", "! 9"}, exchange{"let 1", "! 10"})
	do(t, s, "join bob")
	wantNone(t, s, exchange{"let 3", "! 6"}, exchange{"let 2", "! 9"})
	do(t, s, "leave ann")
	wantReplies(t, s, exchange{"let 2", "bob"}, exchange{"queue", "-"})
}

// Members are given plots in the order in which they joined, wherever others leave.
func TestOrderOfQueue(t *testing.T) {
	s := plot.New()
	var want []string
	for i := range 30 {
		name := nameOf(i * 7 % 30)
		do(t, s, "join "+name)
		want = append(want, name)
	}
	for _, i := range []int{29, 17, 16, 0, 5} {
		do(t, s, "leave "+want[i])
	}
	for _, i := range []int{29, 17, 16, 5, 0} {
		want = slices.Delete(want, i, i+1)
	}
	do(t, s, "join zoe", "join "+nameOf(0))
	want = append(want, "zoe", nameOf(0))
	if !slices.Equal(s.Queue(), want) {
		t.Error(s.Queue(), want)
	}
	wantReply(t, s, "queue", strings.Join(want, " "))
	for range want {
		do(t, s, "lay")
	}
	for i, name := range want {
		no := len(want) - i
		wantReply(t, s, fmt.Sprint("let ", no), name)
		if p, e := s.Plot(no); p.Member != name || e != api.OK {
			t.Error(no, p, e)
		}
	}
	wantReply(t, s, "queue", "-")
}

func TestPlot(t *testing.T) {
	s := after(t, "join ann", "lay", "lay", "let 2", "bed 2 3", "sow 2 2 0 1")
	for _, no := range []int{0, 3, -1, math.MinInt, math.MaxInt, 1 << 32, 1<<32 + 1} {
		if p, e := s.Plot(no); p.No != 0 || p.Member != "" || p.Size != 0 || p.Rows != nil || e != api.ErrNone {
			t.Error(no, p, e)
		}
	}
	if p, e := s.Plot(1); p.No != 1 || p.Member != "" || p.Size != 0 || len(p.Rows) != 0 || e != api.OK {
		t.Error(p, e)
	}
	if p, e := s.Plot(2); p.No != 2 || p.Member != "ann" || p.Size != 3 || fmt.Sprint(p.Rows) != "[[2 0 1]]" || e != api.OK {
		t.Error(p, e)
	}
}

// A nil society and a zero one have nothing, and do nothing.
func TestNoSociety(t *testing.T) {
	for _, s := range []*plot.Society{nil, {}, new(plot.Society)} {
		for _, line := range []string{"", "lay", "join ann", "queue", "fly", "if lay", "audit", "let 1", "\n"} {
			if r := s.Exec(line); r != "" {
				t.Error(line, r)
			}
			if r := s.Run(line + "\nlay\n"); r != "" {
				t.Error(line, r)
			}
		}
		for _, no := range []int{0, 1, -1, math.MinInt, math.MaxInt} {
			if p, e := s.Plot(no); p.No != 0 || p.Member != "" || p.Size != 0 || p.Rows != nil || e != api.ErrNil {
				t.Error(no, p, e)
			}
		}
		if b, q, n, a, c := s.Book(), s.Queue(), s.Note(), s.Audit(), s.Copy(); len(b) != 0 || len(q) != 0 || n != "" || a != (api.Audit{}) || c != nil {
			t.Error(b, q, n, a, c)
		}
	}
}
