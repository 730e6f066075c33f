package plot_test

import (
	"fmt"
	"strings"
	"testing"

	"dibber/api"
	"dibber/plot"
)

const (
	first = "join leave lay let bed sow next clear span type wipe settle" // the names of the commands that change the society
	last  = "queue plan refuse finish note grow take vine audit"          // and of those that only look
)

// exchange is a line and its reply.
type exchange [2]string

func wantReply(t *testing.T, s *plot.Society, line, want string) {
	t.Helper()
	if r := s.Exec(line); r != want {
		t.Fatalf("%q: %q instead of %q", line, r, want)
	}
}

func wantReplies(t *testing.T, s *plot.Society, list ...exchange) {
	t.Helper()
	for _, x := range list {
		wantReply(t, s, x[0], x[1])
	}
}

// wantNone executes lines that must leave all as it is.
func wantNone(t *testing.T, s *plot.Society, list ...exchange) {
	t.Helper()
	before := shown(s)
	for _, x := range list {
		wantReply(t, s, x[0], x[1])
		wantReply(t, s, "if "+x[0], x[1])
		if now := shown(s); now != before {
			t.Fatalf("%q changes\n%s\nto\n%s", x[0], before, now)
		}
	}
}

// after is a new society in which lines have been executed that must not be refused.
func after(t *testing.T, lines ...string) *plot.Society {
	t.Helper()
	s := plot.New()
	do(t, s, lines...)
	return s
}

func do(t *testing.T, s *plot.Society, lines ...string) {
	t.Helper()
	for _, line := range lines {
		if r := s.Exec(line); r == "" || strings.ContainsAny(r[:1], "?!") {
			t.Fatalf("%q: %q", line, r)
		}
	}
}

// shown is what the functions show of a society, and what it replies to many lines.
func shown(s *plot.Society) string {
	var out strings.Builder
	a := s.Audit()
	fmt.Fprintf(&out, "%q\n%q\n%q\n%+v\n", s.Book(), s.Queue(), s.Note(), a)
	for no := range a.Plots + 2 {
		p, e := s.Plot(no)
		fmt.Fprintf(&out, "%+v %d: %s, %s\n", p, e, s.Exec(fmt.Sprint("finish ", no)), s.Exec(fmt.Sprint("if next ", no)))
	}
	for writer := range api.MaxWriters {
		line := fmt.Sprintf("note %d", writer)
		fmt.Fprintf(&out, "%s: %s\n", line, s.Exec(line))
	}
	for _, line := range []string{"queue", "plan", "audit", "refuse 1 0 3 4", "refuse 2 5 9 9", "if settle", "if lay", "if join zoe", "if leave ann"} {
		fmt.Fprintf(&out, "%s: %s\n", line, s.Exec(line))
	}
	return out.String()
}

// rowsOf are the rows of a plot that there is.
func rowsOf(t *testing.T, s *plot.Society, no int) [][]int {
	t.Helper()
	p, e := s.Plot(no)
	if e != api.OK {
		t.Fatal(no, e)
	}
	return p.Rows
}

// sowing is the line that sows a row.
func sowing(no int, row []int) string {
	return fmt.Sprintf("sow %d %s", no, numbers(row))
}

// numbers have a blank between any two.
func numbers(list []int) string {
	return strings.Trim(fmt.Sprint(list), "[]")
}

// nameOf is a name of its own for each number.
func nameOf(i int) string {
	return string([]byte{byte('a' + i/26), byte('a' + i%26)})
}
