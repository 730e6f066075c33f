package plot_test

import (
	"fmt"
	"math/rand"
	"slices"
	"strings"
	"testing"

	"dibber/api"
	"dibber/plot"
	"dibber/turn"
)

// demand is the line that asks for a span.
func demand(command string, s api.Span) string {
	return fmt.Sprintf("%s %d %d %d %d", command, s.From, s.To, s.Low, s.High)
}

// wantRefused asks for spans that are refused, by span and by refuse.
func wantRefused(t *testing.T, s *plot.Society, want string, spans ...string) {
	t.Helper()
	for _, span := range spans {
		wantNone(t, s, exchange{"span " + span, want}, exchange{"refuse " + span, want})
	}
}

// unfitSpans are not valid for six taps and a round of 24 hours.
var unfitSpans = []string{"0 0 1 1", "5 5 0 23", "0 6 1 1", "6 0 1 1", "-1 0 1 1", "0 -1 1 1", "1125899906842624 0 1 1", "0 -1125899906842624 1 1", "0 1 2 1", "0 1 1 25", "0 1 0 24", "0 1 -600 -576", "0 1 -601 -601", "0 1 -601 -590", "0 1 601 601", "0 1 600 624", "0 1 0 1125899906842624", "0 1 -1125899906842624 1125899906842624", "0 1 1125899906842624 1125899906842624", "7 7 9 1"}

func TestSpan(t *testing.T) {
	s := plot.New()
	wantRefused(t, s, "! 2", unfitSpans...)
	wantReplies(t, s, exchange{"refuse 0 1 3 4", "ok"}, exchange{"span 0 1 3 4", "ok"}, exchange{"plan", "0 3 0 0 0 0"}, exchange{"audit", "good 1 0 0 0 0 0 1"})
	wantNone(t, s, exchange{"span 1 0 3 4", "! 10"}, exchange{"refuse 1 0 3 4", "1 2"}, exchange{"span 0 1 9 9", "! 10"}, exchange{"refuse 0 1 9 9", "1 -2"}, exchange{"refuse 1 0 20 21", "ok"}, exchange{"refuse 0 1 600 622", "ok"}, exchange{"refuse 0 1 -600 -578", "ok"})
	wantRefused(t, s, "! 2", unfitSpans...)
	wantReplies(t, s, exchange{"span 0 1 28 50", "ok"}, exchange{"plan", "0 4 0 0 0 0"}, exchange{"span 4 5 -1 -1", "ok"}, exchange{"plan", "0 4 0 0 0 23"}, exchange{"span 5 0 2 2", "ok"}, exchange{"plan", "0 4 0 0 23 22"}, exchange{"refuse 4 0 0 0", "3 4 -5"})
}

// The reply to refuse is the ring of the spans with this one at their end, and none where only three spans together have no
// plan.
func TestRefuse(t *testing.T) {
	s := after(t, "span 2 3 0 23", "span 0 1 0 15", "span 0 1 8 23")
	wantNone(t, s, exchange{"span 0 1 16 31", "! 10"}, exchange{"refuse 0 1 16 31", "none"}, exchange{"refuse 0 1 16 32", "ok"}, exchange{"refuse 0 1 0 7", "3 -4"}, exchange{"refuse 1 0 0 0", "3 4"}, exchange{"refuse 0 1 16 23", "2 -4"})
	do(t, s, "span 0 1 16 32")
	wantReply(t, s, "plan", "0 8 0 0 0 0")
}

func TestManySpans(t *testing.T) {
	s := plot.New()
	for i := range 20 {
		wantReply(t, s, demand("span", api.Span{From: i % 5, To: i%5 + 1, Low: 1, High: 2 + i/5}), "ok")
	}
	wantReply(t, s, "plan", "0 1 2 3 4 5")
	// Spans that are not valid are ErrArg, all others ErrFull, whether there would be a plan or not.
	wantRefused(t, s, "! 2", unfitSpans...)
	wantRefused(t, s, "! 8", "0 1 0 23", "0 1 1 2", "0 1 9 9", "1 0 3 4")
	if a := s.Audit(); a.Spans != 20 || !a.Good {
		t.Error(a)
	}
}

// Spans at random: plan keeps all of them, and those that are refused could not be kept, or are shown by a ring.
func TestWater(t *testing.T) {
	rng := rand.New(rand.NewSource(2))
	rings := 0
	for range 40 {
		s := plot.New()
		var spans []api.Span
		for len(spans) < 20 && rng.Intn(40) > 0 {
			more := api.Span{From: rng.Intn(6), To: rng.Intn(6), Low: rng.Intn(100) - 50}
			more.High = more.Low + rng.Intn(25)
			want, shown := "ok", "ok"
			with := append(slices.Clone(spans), more)
			plan, e := turn.Plan(24, 6, with)
			switch e {
			case api.OK:
				spans = with
			case api.ErrArg:
				want, shown = "! 2", "! 2"
			default:
				want, shown = "! 10", "none"
				if ring, e := turn.Ring(24, 6, with); e == api.OK {
					rings++
					shown = numbers(ring)
				}
			}
			wantReply(t, s, demand("refuse", more), shown)
			wantReply(t, s, demand("span", more), want)
			if e == api.OK {
				wantReply(t, s, "plan", numbers(plan))
			}
		}
		var plan []int
		for _, hour := range strings.Fields(s.Exec("plan")) {
			plan = append(plan, int(hour[0]-'0'))
			if len(hour) > 1 {
				plan[len(plan)-1] = 10*plan[len(plan)-1] + int(hour[1]-'0')
			}
		}
		if ok, e := turn.Is(24, 6, spans, plan); !ok || e != api.OK {
			t.Error(spans, plan, e)
		}
		if a := s.Audit(); !a.Good || a.Spans != len(spans) {
			t.Error(a, spans)
		}
	}
	if rings == 0 {
		t.Error("no rings")
	}
}

// A span less never takes plans away: societies without one of the spans still take what the whole one takes.
func TestSpanLess(t *testing.T) {
	spans := []string{"span 0 1 3 9", "span 1 2 3 9", "span 2 0 3 9", "span 3 4 20 25", "span 4 1 -5 5"}
	whole := after(t, spans...)
	for i := range spans {
		less := after(t, slices.Delete(slices.Clone(spans), i, i+1)...)
		for from := range 6 {
			for to := range 6 {
				for low := -10; low < 30; low += 3 {
					line := demand("refuse", api.Span{From: from, To: to, Low: low, High: low + 2})
					if whole.Exec(line) == "ok" && less.Exec(line) != "ok" {
						t.Error(i, line)
					}
				}
			}
		}
	}
}
