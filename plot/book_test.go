package plot_test

import (
	"fmt"
	"slices"
	"strings"
	"testing"

	"dibber/api"
	"dibber/plot"
)

// example is the one of the chapter.
var example = []exchange{
	{"join ann", "1"}, {"join bob", "2"}, {"lay", "1"}, {"let 1", "ann"}, {"queue", "bob"}, {"bed 1 3", "ok"}, {"sow 1 0 1 2", "ok"}, {"sow 1 0 2 1", "! 10"}, {"next 1", "1 2 0"}, {"finish 1", "1"},
	{"span 0 1 3 4", "ok"}, {"span 1 0 3 4", "! 10"}, {"refuse 1 0 3 4", "1 2"}, {"plan", "0 3 0 0 0 0"},
	{"type 0 0 hello", "ok"}, {"type 1 0 oh", "ok"}, {"wipe 0 4", "ok"}, {"settle", "40"}, {"note 2", "helloh"},
	{"take 11 10", "3"}, {"grow 90 00100 1", "01010"}, {"vine ab.a a 5", "13"}, {"leave ann", "ok"}, {"join bob", "! 7"}, {"let 1", "bob"},
}

// kept are the commands of the example that are in the book.
var kept = []string{"join ann", "join bob", "lay", "let 1", "bed 1 3", "sow 1 0 1 2", "next 1", "span 0 1 3 4", "type 0 0 hello", "type 1 0 oh", "wipe 0 4", "settle", "leave ann", "let 1"}

func TestExample(t *testing.T) {
	s := plot.New()
	wantReplies(t, s, example...)
	if !slices.Equal(s.Book(), kept) {
		t.Error(s.Book())
	}
	wantReply(t, s, "audit", "good 14 1 0 1 1 2 1")
	wantRead(t, s)
}

// wantRead reads the book of a society again.
func wantRead(t *testing.T, s *plot.Society) *plot.Society {
	t.Helper()
	again, n, e := plot.Read(s.Book())
	if again == nil || n != 0 || e != api.OK {
		t.Fatal(n, e)
	}
	if now, want := shown(again), shown(s); now != want {
		t.Fatalf("%s\ninstead of\n%s", now, want)
	}
	return again
}

func TestRun(t *testing.T) {
	var lines, replies string
	for _, x := range example {
		lines += x[0] + "\n"
		replies += x[1] + "\n"
	}
	for text, want := range map[string]string{
		"": "", "\n": "", "\n\n\n": "", "  \n \n   ": "", "lay": "1\n", "lay\n": "1\n", "\nlay": "1\n", "lay\nlay": "1\n2\n", "lay\n\n  \nlay\n\n": "1\n2\n", "lay\n ": "1\n",
		"fly\nlay\nlet 1\njoin A\nlay": "? line\n1\n! 10\n? word 1\n2\n", "lay\r\nlay": "? line\n1\n", "if\nif lay\nif if lay\n": "? line\n1\n1\n", "join ann join bob\njoin ann": "? line\n1\n", "queue\nplan\naudit": "-\n0 0 0 0 0 0\ngood 0 0 0 0 0 0 0\n",
		strings.Repeat(" ", 301) + "\nlay" + strings.Repeat(" ", 298) + "\nlay": "? line\n1\n",
		lines: replies, strings.TrimSuffix(lines, "\n"): replies,
	} {
		if got := plot.New().Run(text); got != want {
			t.Errorf("%q: %q instead of %q", text, got, want)
		}
	}
	s := plot.New()
	if got := s.Run("join ann\njoin bob") + s.Run("lay\nqueue\n"); got != "1\n2\n1\nann bob\n" || len(s.Book()) != 3 {
		t.Errorf("%q", got)
	}
}

func TestBook(t *testing.T) {
	s := plot.New()
	s.Run("  join   ann \nqueue\njoin ann\nlay\nlay 1\nlet  1\nif lay\nbed 1   2\nsow 1 9 9\nsow  1  1 0\nsettle\naudit\n\njoin Bob\nif join bob")
	if got := s.Book(); !slices.Equal(got, []string{"join ann", "lay", "let 1", "bed 1 2", "sow 1 1 0", "settle"}) {
		t.Errorf("%q", got)
	}
	wantRead(t, s)
}

func wantUnread(t *testing.T, book []string, number int, errno api.Errno) {
	t.Helper()
	if s, n, e := plot.Read(book); s != nil || n != number || e != errno {
		t.Fatal(book, s, n, e, number, errno)
	}
}

func TestRead(t *testing.T) {
	for _, book := range [][]string{nil, {}} {
		s, n, e := plot.Read(book)
		if s == nil || n != 0 || e != api.OK || shown(s) != shown(plot.New()) {
			t.Error(s, n, e)
		}
	}
	s, n, e := plot.Read([]string{"  join  ann ", "lay ", " let   1"})
	if n != 0 || e != api.OK || !slices.Equal(s.Book(), []string{"join ann", "lay", "let 1"}) {
		t.Error(s, n, e)
	}
	forms := []string{"", " ", strings.Repeat(" ", 400), "fly", "if", "if lay", "if join zoe", "if fly", "lay 1", "join", "join Ann", "bed 1 x", "lay\n", "lay\nlay", "lay" + strings.Repeat(" ", 298), "\x00", "é", "LAY"}
	for _, command := range strings.Fields(last) {
		forms = append(forms, samples[command].line)
	}
	forms = append(forms, "finish 9", "note 9", "grow 256 x 1", "take 11 2", "vine x x 1", "refuse 0 0 1 1", "refuse 1 0 3 4") // refused, or not
	for _, line := range forms {
		wantUnread(t, []string{line}, 1, api.ErrForm)
		wantUnread(t, []string{"lay", "join ann", line}, 3, api.ErrForm)
		wantUnread(t, []string{"lay", line, "fly", "let 7"}, 2, api.ErrForm)
	}
	for line, errno := range map[string]api.Errno{"join ann": api.ErrExists, "leave zoe": api.ErrNone, "let 7": api.ErrNone, "let 1": api.ErrState, "let 2": api.ErrPlan, "bed 1 8": api.ErrArg, "next 1": api.ErrState, "type 0 0 A": api.ErrForm, "type 0 1 a": api.ErrRange, "span 0 0 1 1": api.ErrArg, "  let    7": api.ErrNone} {
		wantUnread(t, []string{"join ann", "lay", "lay", "let 1", line}, 5, errno)
		wantUnread(t, []string{"join ann", "lay", "lay", "let 1", line, "fly"}, 5, errno)
	}
}

// fullBook has 2000 commands; in the society that it makes, ann waits and the plot 1 is nobody's.
func fullBook() []string {
	book := []string{"lay", "span 0 1 3 4", "join ann", "let 1", "bed 1 2", "leave ann"}
	for len(book) < 1998 {
		book = append(book, "join bob", "leave bob")
	}
	return append(book, "join ann", "settle")
}

func TestFullBook(t *testing.T) {
	book := fullBook()
	s, n, e := plot.Read(book)
	if n != 0 || e != api.OK || !slices.Equal(s.Book(), book) {
		t.Fatal(n, e)
	}
	wantNone(t, s, exchange{"audit", "good 2000 1 1 1 0 0 1"}, exchange{"queue", "ann"}, exchange{"refuse 1 2 3 4", "ok"}, exchange{"refuse 1 0 3 4", "1 2"}, exchange{"finish 1", "2"}, exchange{"take 11 10", "3"}, exchange{"if queue", "ann"})
	for line, want := range map[string]string{
		"join bob": "! 8", "join ann": "! 7", "leave ann": "! 8", "leave bob": "! 6", "lay": "! 8", "let 1": "! 8", "let 2": "! 6", "bed 1 2": "! 9", "sow 1 0 1": "! 8", "sow 1 0 0": "! 10", "sow 1 0": "! 2", "next 1": "! 8", "next 2": "! 6", "clear 1": "! 8", "clear 2": "! 6",
		"span 1 2 3 4": "! 8", "span 1 0 3 4": "! 10", "span 1 1 1 1": "! 2", "type 0 0 a": "! 8", "type 0 0 A": "! 5", "type 0 1 a": "! 4", "type 5 0 a": "! 2", "wipe 0 0": "! 4", "settle": "! 8",
		"fly": "? line", "join Bob": "? word 1", "lay 1": "? line",
	} {
		wantNone(t, s, exchange{line, want})
	}
	wantUnread(t, append(book, "lay"), 2001, api.ErrFull)
	wantUnread(t, append(book, "join ann"), 2001, api.ErrExists)
	wantUnread(t, append(book, "queue"), 2001, api.ErrForm)
	wantUnread(t, append(book, "if lay"), 2001, api.ErrForm)
	less, _, _ := plot.Read(book[:1999])
	wantReplies(t, less, exchange{"if lay", "2"}, exchange{"lay", "2"}, exchange{"lay", "! 8"}, exchange{"if lay", "! 8"})
}

func TestIf(t *testing.T) {
	s := busy(t)
	for _, sample := range samples {
		want := busy(t).Exec(sample.line)
		wantNone(t, s, exchange{"if " + sample.line, want}, exchange{" if  if  " + sample.line, want}, exchange{"if if if " + sample.line, want})
	}
	wantNone(t, s, exchange{"if", "? line"}, exchange{"if if", "? line"}, exchange{"if fly", "? line"}, exchange{"if sow 1", "? line"}, exchange{"if join Ann", "? word 1"}, exchange{"if bed 1 x", "? word 2"}, exchange{"if join ann", "! 7"}, exchange{"if let 9", "! 6"})
	wantNone(t, s, exchange{"if let 2", "bob"}, exchange{"if if let 2", "bob"}, exchange{"queue", "bob"})
}

// A copy shows the same; what is done with it, or with the society, the other one does not show.
func TestCopy(t *testing.T) {
	one := []string{"join zoe", "leave bob", "lay", "let 2", "next 1", "span 0 1 3 9", "type 0 0 abc", "wipe 0 0", "settle", "type 1 0 d"}
	two := []string{"join max", "let 2", "bed 2 5", "lay", "sow 1 2 1 0", "span 1 2 5 5", "type 0 1 xyz", "settle", "wipe 4 1", "clear 3", "leave ann"}
	for more := range 20 { // the books are of many lengths
		setUp := func() *plot.Society {
			s := busy(t)
			do(t, s, "bed 3 4", "next 3", "next 3", "span 3 4 1 2", "settle", "type 2 0 pea")
			for range more {
				do(t, s, "settle")
			}
			return s
		}
		wantOne, wantTwo := setUp(), setUp()
		do(t, wantOne, one...)
		do(t, wantTwo, two...)
		s := setUp()
		before := shown(s)
		c := s.Copy()
		if c == s || shown(c) != before {
			t.Fatal(shown(c))
		}
		for i := range max(len(one), len(two)) {
			if i < len(one) {
				do(t, s, one[i])
			}
			if i < len(two) {
				do(t, c, two[i])
			}
		}
		if shown(s) != shown(wantOne) || shown(c) != shown(wantTwo) {
			t.Fatalf("%s\n%s", shown(s), shown(c))
		}
		one, two = two, one
	}
}

// What is done with results and arguments does not change the society.
func TestMemory(t *testing.T) {
	lines := []string{"join ann", "join bob", "join cy", "lay", "let 1", "bed 1 3", "next 1", "next 1"}
	s, _, _ := plot.Read(lines)
	before := shown(s)
	lines[0], lines[7] = "lay", "lay"
	book, queue := s.Book(), s.Queue()
	book[0], queue[0] = "lay", "zoe"
	_, _ = append(book[:1], "lay"), append(queue[:1], "zoe")
	for range 2 {
		p, _ := s.Plot(1)
		p.Rows[0][0], p.Rows[1][2] = 9, 9
		p.Rows[1] = []int{7}
		_ = append(p.Rows, []int{2, 0, 1})
	}
	if now := shown(s); now != before {
		t.Errorf("%s\ninstead of\n%s", now, before)
	}
	wantReply(t, s, "next 1", "2 0 1")
	first, _ := s.Plot(1)
	second, _ := s.Plot(1)
	first.Rows[0][0] = 9
	if second.Rows[0][0] != 0 || fmt.Sprint(rowsOf(t, s, 1)) != "[[0 1 2] [1 2 0] [2 0 1]]" {
		t.Error(second)
	}
}
