package plot_test

import (
	"fmt"
	"math/rand"
	"testing"

	"dibber/api"
	"dibber/bed"
	"dibber/plot"
)

// withBed has a plot, the first one, with a bed of a size.
func withBed(t *testing.T, size int) *plot.Society {
	t.Helper()
	return after(t, "join ann", "lay", "let 1", fmt.Sprint("bed 1 ", size))
}

func wantRows(t *testing.T, s *plot.Society, no, size int, want string) {
	t.Helper()
	if p, e := s.Plot(no); p.Size != size || fmt.Sprint(p.Rows) != want || e != api.OK {
		t.Fatal(p, e, want)
	}
}

func TestBed(t *testing.T) {
	s := after(t, "join ann", "join bob", "lay", "lay", "let 1")
	wantNone(t, s, exchange{"bed 0 3", "! 6"}, exchange{"bed 3 3", "! 6"}, exchange{"bed -1 0", "! 6"}, exchange{"bed 3 0", "! 6"}, exchange{"bed 3 8", "! 6"},
		exchange{"bed 2 3", "! 9"}, exchange{"bed 2 0", "! 9"}, exchange{"bed 2 8", "! 9"},
		exchange{"bed 1 0", "! 2"}, exchange{"bed 1 8", "! 2"}, exchange{"bed 1 -1", "! 2"}, exchange{"bed 1 1125899906842624", "! 2"}, exchange{"bed 1 -1125899906842624", "! 2"})
	for size := 1; size <= 7; size++ {
		wantReply(t, s, fmt.Sprint("bed 1 ", size), "ok")
		wantRows(t, s, 1, size, "[]")
		wantNone(t, s, exchange{"bed 1 3", "! 9"}, exchange{"bed 1 0", "! 9"}, exchange{"bed 1 8", "! 9"})
		do(t, s, "clear 1")
		wantRows(t, s, 1, 0, "[]")
	}
	do(t, s, "leave ann")
	wantNone(t, s, exchange{"bed 1 3", "! 9"}, exchange{"bed 1 8", "! 9"})
	wantReplies(t, s, exchange{"let 1", "bob"}, exchange{"bed 1 3", "ok"})
}

func TestSow(t *testing.T) {
	s := after(t, "join ann", "lay", "lay", "let 1")
	wantNone(t, s, exchange{"sow 0 0", "! 6"}, exchange{"sow 3 0 1", "! 6"}, exchange{"sow 1 0", "! 9"}, exchange{"sow 1 9 9", "! 9"}, exchange{"sow 2 0 1 2", "! 9"})
	do(t, s, "bed 1 3")
	for _, line := range []string{"sow 1 0", "sow 1 0 1", "sow 1 0 1 2 3", "sow 1 0 0 0 0 0 0 0", "sow 1 7 7"} {
		wantNone(t, s, exchange{line, "! 2"})
	}
	for _, line := range []string{"sow 1 0 1 3", "sow 1 -1 0 1", "sow 1 0 0 1", "sow 1 0 1 1", "sow 1 -1 -1 -1", "sow 1 0 1 -1", "sow 1 1 2 3"} {
		wantNone(t, s, exchange{line, "! 10"})
	}
	wantReply(t, s, "sow 1 1 0 2", "ok")
	wantRows(t, s, 1, 3, "[[1 0 2]]")
	for _, line := range []string{"sow 1 1 2 0", "sow 1 2 0 1", "sow 1 0 1 2", "sow 1 1 0 2", "sow 1 2 1 1"} {
		wantNone(t, s, exchange{line, "! 10"})
	}
	wantReply(t, s, "sow 1 2 1 0", "ok")
	wantNone(t, s, exchange{"sow 1 2 1 0", "! 10"}, exchange{"sow 1 0", "! 2"})
	wantReply(t, s, "sow 1 0 2 1", "ok")
	wantRows(t, s, 1, 3, "[[1 0 2] [2 1 0] [0 2 1]]")
	wantNone(t, s, exchange{"sow 1 0 2 1", "! 9"}, exchange{"sow 1 0", "! 9"}, exchange{"sow 1 9 9 9", "! 9"}, exchange{"next 1", "! 9"})
	wantReply(t, s, "finish 1", "0")
}

// Where nobody has the plot any more, its bed can still be sown, looked at and cleared.
func TestBedOfNobody(t *testing.T) {
	s := withBed(t, 2)
	do(t, s, "leave ann")
	wantReplies(t, s, exchange{"finish 1", "2"}, exchange{"sow 1 1 0", "ok"}, exchange{"next 1", "0 1"}, exchange{"finish 1", "0"}, exchange{"clear 1", "ok"}, exchange{"bed 1 2", "! 9"})
}

func TestNextAndFinishErrors(t *testing.T) {
	s := after(t, "join ann", "lay", "lay", "let 2")
	for _, command := range []string{"next", "finish", "clear"} {
		for no, want := range map[int]string{0: "! 6", 3: "! 6", -1: "! 6", 1: "! 9", 2: "! 9"} {
			wantNone(t, s, exchange{fmt.Sprint(command, " ", no), want})
		}
	}
}

func TestClear(t *testing.T) {
	s := withBed(t, 3)
	do(t, s, "next 1", "next 1", "clear 1")
	wantRows(t, s, 1, 0, "[]")
	wantNone(t, s, exchange{"clear 1", "! 9"}, exchange{"next 1", "! 9"}, exchange{"finish 1", "! 9"}, exchange{"sow 1 0 1 2", "! 9"})
	if p, _ := s.Plot(1); p.Member != "ann" {
		t.Error(p)
	}
	wantReplies(t, s, exchange{"bed 1 2", "ok"}, exchange{"finish 1", "2"}, exchange{"next 1", "0 1"}, exchange{"audit", "good 9 1 0 1 1 1 0"})
}

// Beds of all sizes are sown to their end, by next and by rows at random: next is never refused before that, and sows what
// Row returns.
func TestBedsToTheEnd(t *testing.T) {
	rng := rand.New(rand.NewSource(1))
	for round := range 60 {
		size := round%7 + 1
		s := withBed(t, size)
		for k := range size {
			rows := rowsOf(t, s, 1)
			least, e := bed.Row(size, rows)
			ways, _ := bed.Rows(size, rows)
			if e != api.OK || ways < 1 {
				t.Fatal(rows, e, ways)
			}
			wantReply(t, s, "finish 1", fmt.Sprint(ways))
			if row := rng.Perm(size); round >= 7 && rng.Intn(3) > 0 {
				_, e := bed.Row(size, append(rows, row))
				want := "ok"
				if e == api.ErrArg {
					want = "! 10"
				}
				wantReply(t, s, sowing(1, row), want)
				if e != api.ErrArg {
					continue
				}
			}
			wantReply(t, s, "next 1", numbers(least))
			if got := rowsOf(t, s, 1); len(got) != k+1 || numbers(got[k]) != numbers(least) {
				t.Fatal(got, least)
			}
		}
		if r, c, e := bed.Check(rowsOf(t, s, 1)); e != api.ErrPlan {
			t.Error(r, c, e)
		}
		wantNone(t, s, exchange{"next 1", "! 9"}, exchange{"finish 1", "0"}, exchange{"sow 1 0", "! 9"})
		if a := s.Audit(); !a.Good || a.Rows != size {
			t.Error(a)
		}
	}
}

func TestBedsApart(t *testing.T) {
	s := after(t, "join ann", "join bob", "lay", "lay", "let 2", "let 1", "bed 1 2", "bed 2 3")
	wantReplies(t, s, exchange{"sow 2 2 1 0", "ok"}, exchange{"sow 1 1 0", "ok"}, exchange{"next 2", "0 2 1"}, exchange{"finish 1", "1"}, exchange{"finish 2", "1"}, exchange{"audit", "good 11 2 0 2 2 3 0"}, exchange{"clear 2", "ok"}, exchange{"audit", "good 12 2 0 2 2 1 0"})
	wantRows(t, s, 1, 2, "[[1 0]]")
}
