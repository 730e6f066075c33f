package plot_test

import (
	"math/rand"
	"slices"
	"strings"
	"sync"
	"testing"

	"dibber/api"
	"dibber/plot"
)

// wantLike compares a society with its model.
func wantLike(t *testing.T, s *plot.Society, m *model) {
	t.Helper()
	if a := s.Audit(); a != m.audit() {
		t.Fatal(a, m.audit())
	}
	if !slices.Equal(s.Queue(), m.waiting()) || !slices.Equal(s.Book(), m.book) {
		t.Fatal(s.Queue(), m.waiting(), s.Book(), m.book)
	}
	for i, b := range m.beds {
		wantRows(t, s, i+1, b.size, "["+strings.Join(rowWords(b.rows), " ")+"]")
		p, _ := s.Plot(i + 1)
		who := ""
		if holder := m.holder(i + 1); holder >= 0 {
			who = m.people[holder].name
		}
		if p.Member != who || p.No != i+1 {
			t.Fatal(p, who)
		}
	}
}

func rowWords(rows [][]int) []string {
	var out []string
	for _, row := range rows {
		out = append(out, "["+numbers(row)+"]")
	}
	return out
}

// Scripts at random, line by line against a model: if foretells each reply, and what is refused or only looks changes nothing.
// The book that is read in the midst of them makes a society that goes on in the same way.
func TestScripts(t *testing.T) {
	rng := rand.New(rand.NewSource(4))
	refused := 0
	for range 50 {
		s, m := plot.New(), newModel()
		var again *plot.Society
		for step := range 120 {
			if step == 60 {
				again = wantRead(t, s)
			}
			a := someAsked(rng)
			line := a.line()
			before := shown(s)
			want := m.reply(a)
			wantReply(t, s, "if "+line, want)
			if shown(s) != before {
				t.Fatal("if", line)
			}
			wantReply(t, s, line, want)
			isRefused := want[0] == '!'
			if isRefused {
				refused++
			}
			if (isRefused || strings.Contains(last, a.command)) && shown(s) != before {
				t.Fatal(line)
			}
			if again != nil {
				wantReply(t, again, line, want)
			}
			wantLike(t, s, m)
		}
		if shown(again) != shown(s) {
			t.Fatal(shown(again), shown(s))
		}
		wantRead(t, s)
	}
	if refused < 500 {
		t.Error(refused)
	}
}

// someLine is a line that is understood only sometimes.
func someLine(rng *rand.Rand) string {
	if rng.Intn(10) == 0 {
		out := make([]byte, rng.Intn(40))
		for i := range out {
			out[i] = byte(rng.Intn(256))
		}
		return string(out)
	}
	pool := strings.Fields(first + " " + last + " if if ann bob - . ab.a a 0 1 2 3 -1 007 1125899906842624 -1125899906842624 9223372036854775808 00100 Ann abcdefghi ? !")
	var words []string
	for range rng.Intn(8) {
		words = append(words, pool[rng.Intn(len(pool))])
	}
	return strings.Join(words, strings.Repeat(" ", 1+rng.Intn(2)))
}

// Whatever the lines, there are replies, and they are the same each time, whatever other societies do in the meantime.
func TestAnyLines(t *testing.T) {
	rng := rand.New(rand.NewSource(5))
	for range 80 {
		var lines []string
		for range 60 {
			if rng.Intn(2) == 0 {
				lines = append(lines, someAsked(rng).line())
			} else {
				lines = append(lines, someLine(rng))
			}
		}
		text := strings.Join(lines, "\n")
		var replies [4]string
		var all sync.WaitGroup
		for i := range replies {
			all.Go(func() {
				s := plot.New()
				replies[i] = s.Run(text) + shown(s)
			})
		}
		all.Wait()
		for _, r := range replies {
			if r != replies[0] {
				t.Fatal(text, r, replies[0])
			}
		}
		s := plot.New()
		for _, line := range lines {
			if strings.Contains(line, "\n") {
				continue
			}
			before := shown(s)
			r := s.Exec(line)
			if (strings.Trim(line, " ") == "") != (r == "") {
				t.Fatalf("%q: %q", line, r)
			}
			if (r == "" || r[0] == '?' || r[0] == '!') && shown(s) != before {
				t.Fatalf("%q: %q", line, r)
			}
			if a := s.Audit(); !a.Good || a.Commands != len(s.Book()) {
				t.Fatal(a)
			}
		}
		wantRead(t, s)
		if _, n, e := plot.Read(lines); e == api.OK || n < 1 || n > len(lines) {
			t.Fatal(n, e)
		}
	}
}
