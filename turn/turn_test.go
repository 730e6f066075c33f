package turn_test

import (
	"math"
	"math/rand"
	"slices"
	"testing"

	"dibber/api"
	"dibber/turn"
)

func TestWrongDemands(t *testing.T) {
	for _, c := range wrong {
		for name, call := range calls(c.t, c.n, c.spans, make([]int, max(0, min(c.n, 7))), []int{1, 2, 3}) {
			if zero, e := call(); !zero || e != c.want {
				t.Error(name, c, zero, e)
			}
		}
	}
	// The demands are read before the plan and the ring.
	for name, call := range calls(10, 3, slices.Repeat(three(1, 2), 7), nil, nil) {
		if zero, e := call(); !zero || e != api.ErrLimit {
			t.Error(name, zero, e)
		}
	}
}

func TestDemandsAtTheirLimits(t *testing.T) {
	for _, c := range []struct {
		t, n  int
		spans []api.Span
		plan  []int
	}{
		{1, 1, nil, []int{0}},
		{24, 1, nil, []int{0}},
		{24, 6, nil, []int{0, 0, 0, 0, 0, 0}},
		{1, 2, []api.Span{{From: 1, To: 0, Low: 7, High: 7}}, []int{0, 0}},
		{24, 2, []api.Span{{From: 0, To: 1, Low: -600, High: -600}}, []int{0, 0}},
		{24, 2, []api.Span{{From: 0, To: 1, Low: 600, High: 600}}, []int{0, 0}},
		{23, 2, []api.Span{{From: 0, To: 1, Low: 600, High: 622}}, []int{0, 0}},
		{23, 2, []api.Span{{From: 0, To: 1, Low: 600, High: 601}}, []int{0, 2}},
		{23, 2, []api.Span{{From: 1, To: 0, Low: 600, High: 601}}, []int{0, 20}},
		{23, 2, []api.Span{{From: 0, To: 1, Low: -600, High: -599}}, []int{0, 21}},
		{23, 6, []api.Span{{From: 4, To: 5, Low: 22, High: 22}}, []int{0, 0, 0, 0, 0, 22}},
		{10, 3, slices.Repeat([]api.Span{{From: 2, To: 0, Low: 3, High: 4}}, 20), []int{0, 0, 6}},
	} {
		if l, e := turn.Plan(c.t, c.n, c.spans); !slices.Equal(l, c.plan) || e != api.OK {
			t.Error(c, l, e)
		}
		for name, call := range calls(c.t, c.n, c.spans, c.plan, []int{1, -1}) {
			if _, e := call(); e == api.ErrLimit || e == api.ErrArg && name != "Rounds" {
				t.Error(name, c, e)
			}
		}
	}
}

func TestPlan(t *testing.T) {
	if l, e := turn.Plan(10, 3, three(3, 4)); !slices.Equal(l, []int{0, 3, 6}) || e != api.OK {
		t.Error(l, e)
	}
	if k, e := turn.Plans(10, 3, three(3, 4)); k != 3 || e != api.OK {
		t.Error(k, e)
	}
	for name, call := range calls(10, 3, three(3, 3), []int{0, 3, 6}, []int{1, 2, 3}) {
		if zero, e := call(); (name == "Plan" || name == "Shortest") && (!zero || e != api.ErrPlan) {
			t.Error(name, zero, e)
		}
	}
	if k, e := turn.Plans(10, 3, three(3, 3)); k != 0 || e != api.OK {
		t.Error(k, e)
	}
	rng := rand.New(rand.NewSource(41))
	for range 1500 {
		round, n := 1+rng.Intn(8), 2+rng.Intn(3)
		wantPlans(t, round, n, someSpans(rng, round, n, rng.Intn(2*n+1), round))
	}
	for range 30 {
		wantPlans(t, 24, 4, someSpans(rng, 24, 4, 2+rng.Intn(6), 18))
		wantPlans(t, 6, 6, someSpans(rng, 6, 6, rng.Intn(12), 5))
		wantPlans(t, 24, 3, someSpans(rng, 24, 3, 20, 24))
	}
}

// wantPlans compares with all lists of hours.
func wantPlans(t *testing.T, round, n int, spans []api.Span) {
	t.Helper()
	want := plans(round, n, spans)
	if k, e := turn.Plans(round, n, spans); k != len(want) || e != api.OK {
		t.Fatal(round, n, spans, k, e, len(want))
	}
	best, least, e := turn.Shortest(round, n, spans)
	l, f := turn.Plan(round, n, spans)
	if len(want) == 0 {
		if len(l) != 0 || f != api.ErrPlan || len(best) != 0 || least != 0 || e != api.ErrPlan {
			t.Fatal(round, n, spans, l, f, best, least, e)
		}
		return
	}
	if !slices.Equal(l, want[0]) || f != api.OK {
		t.Fatal(round, n, spans, l, f, want[0])
	}
	sum := func(plan []int) int {
		out := 0
		for _, s := range spans {
			out += slack(round, s, plan)
		}
		return out
	}
	first := slices.MinFunc(want, func(a, b []int) int { return sum(a) - sum(b) })
	if !slices.Equal(best, first) || least != sum(first) || e != api.OK {
		t.Fatal(round, n, spans, best, least, e, first, sum(first))
	}
}

func TestShortest(t *testing.T) {
	for _, c := range []struct {
		t, n  int
		spans []api.Span
		plan  []int
		sum   int
	}{
		{10, 3, three(3, 4), []int{0, 3, 6}, 1},
		{10, 1, nil, []int{0}, 0},
		{10, 3, nil, []int{0, 0, 0}, 0},
		{10, 2, []api.Span{{From: 0, To: 1, Low: 3, High: 12}}, []int{0, 3}, 0},
		{10, 2, []api.Span{{From: 0, To: 1, Low: 3, High: 12}, {From: 1, To: 0, Low: 2, High: 11}}, []int{0, 3}, 5},
		{10, 2, []api.Span{{From: 0, To: 1, Low: 8, High: 17}, {From: 0, To: 1, Low: 8, High: 11}}, []int{0, 8}, 0},
		{10, 2, []api.Span{{From: 1, To: 0, Low: 1, High: 3}}, []int{0, 9}, 0},
	} {
		if l, k, e := turn.Shortest(c.t, c.n, c.spans); !slices.Equal(l, c.plan) || k != c.sum || e != api.OK {
			t.Error(c, l, k, e)
		}
	}
}

func TestManyPlans(t *testing.T) {
	if k, e := turn.Plans(24, 5, nil); k != 24*24*24*24 || e != api.OK {
		t.Error(k, e)
	}
	if k, e := turn.Plans(24, 6, million); k != api.MaxPlans || e != api.OK {
		t.Error(k, e)
	}
	best, sum, e := turn.Shortest(24, 6, million)
	if e != api.OK || !isPlan(24, million, best) {
		t.Error(best, sum, e)
	}
	for _, spans := range [][]api.Span{oneMore, nil, oneMore[1:]} {
		if k, e := turn.Plans(24, 6, spans); k != 0 || e != api.ErrFull {
			t.Error(spans, k, e)
		}
		if l, k, e := turn.Shortest(24, 6, spans); len(l) != 0 || k != 0 || e != api.ErrFull {
			t.Error(spans, l, k, e)
		}
		if l, e := turn.Plan(24, 6, spans); !isPlan(24, spans, l) || e != api.OK {
			t.Error(spans, l, e)
		}
	}
	// No plan is found only when all but the last event have been tried at all hours.
	last := []api.Span{{From: 4, To: 5, Low: 3, High: 3}, {From: 5, To: 4, Low: 3, High: 3}}
	if _, e := turn.Plan(24, 6, last); e != api.ErrPlan {
		t.Error(e)
	}
	if k, e := turn.Plans(24, 6, last); k != 0 || e != api.OK {
		t.Error(k, e)
	}
}

// broken are lists that are not n hours of a round of 10, for 3 events.
var broken = [][]int{nil, {}, {0}, {0, 3}, {0, 3, 6, 9}, {0, 3, 10}, {0, 3, -1}, {-10, 3, 6}, {10, 3, 6}, {0, 13, 6}, {0, math.MinInt, 6}, {0, math.MaxInt, 6}, {math.MinInt, math.MaxInt, 0}}

func TestIs(t *testing.T) {
	for _, plan := range broken {
		if ok, e := turn.Is(10, 3, three(3, 4), plan); ok || e != api.OK {
			t.Error(plan, ok, e)
		}
		if ok, e := turn.Is(10, 3, nil, plan); ok || e != api.OK {
			t.Error(plan, ok, e)
		}
	}
	if ok, e := turn.Is(10, 3, nil, []int{0, 9, 9}); !ok || e != api.OK {
		t.Error(ok, e)
	}
	rng := rand.New(rand.NewSource(42))
	for range 200 {
		round, n := 1+rng.Intn(6), 2+rng.Intn(3)
		spans := someSpans(rng, round, n, rng.Intn(n+2), round)
		for _, l := range lists(n, -1, round) {
			want := slices.Min(l) >= 0 && slices.Max(l) < round && isPlan(round, spans, l)
			if ok, e := turn.Is(round, n, spans, l); ok != want || e != api.OK {
				t.Fatal(round, n, spans, l, ok, e)
			}
		}
	}
}

func TestSlack(t *testing.T) {
	for _, plan := range broken {
		if l, e := turn.Slack(10, 3, three(3, 4), plan); len(l) != 0 || e != api.ErrArg {
			t.Error(plan, l, e)
		}
		if l, e := turn.Slack(10, 3, nil, plan); len(l) != 0 || e != api.ErrArg {
			t.Error(plan, l, e)
		}
	}
	for _, c := range []struct{ plan, want []int }{
		{[]int{0, 3, 6}, []int{0, 0, 1}},
		{[]int{0, 4, 7}, []int{1, 0, 0}},
		{[]int{0, 0, 0}, []int{7, 7, 7}},
		{[]int{9, 2, 1}, []int{0, 6, 5}},
	} {
		if l, e := turn.Slack(10, 3, three(3, 4), c.plan); !slices.Equal(l, c.want) || e != api.OK {
			t.Error(c, l, e)
		}
	}
	if l, e := turn.Slack(10, 3, nil, []int{1, 2, 3}); len(l) != 0 || e != api.OK {
		t.Error(l, e)
	}
	rng := rand.New(rand.NewSource(43))
	for range 2000 {
		round, n := 1+rng.Intn(24), 2+rng.Intn(5)
		spans := someSpans(rng, round, n, 1+rng.Intn(20), round)
		plan := someHours(rng, round, n)
		var want []int
		for _, s := range spans {
			want = append(want, slack(round, s, plan))
		}
		if l, e := turn.Slack(round, n, spans, plan); !slices.Equal(l, want) || e != api.OK {
			t.Fatal(round, n, spans, plan, l, e)
		}
	}
}

func someHours(rng *rand.Rand, round, n int) []int {
	out := make([]int, n)
	for i := range out {
		out[i] = rng.Intn(round)
	}
	return out
}

// TestMoved also moves plans such that another event comes at hour 0.
func TestMoved(t *testing.T) {
	rng := rand.New(rand.NewSource(44))
	for range 500 {
		round, n := 1+rng.Intn(24), 2+rng.Intn(5)
		spans := someSpans(rng, round, n, 1+rng.Intn(6), round)
		plan := someHours(rng, round, n)
		if l, e := turn.Plan(round, n, spans); e == api.OK {
			plan = l
		}
		want, _ := turn.Slack(round, n, spans, plan)
		for by := range round {
			moved := slices.Clone(plan)
			for i := range moved {
				moved[i] = (moved[i] + by) % round
			}
			if l, e := turn.Slack(round, n, spans, moved); !slices.Equal(l, want) || e != api.OK {
				t.Fatal(round, n, spans, moved, l, e)
			}
		}
	}
}

func TestMoreSpans(t *testing.T) {
	rng := rand.New(rand.NewSource(45))
	for range 1000 {
		round, n := 1+rng.Intn(10), 2+rng.Intn(3)
		spans := someSpans(rng, round, n, 1+rng.Intn(5), round)
		count, _ := turn.Plans(round, n, spans)
		if k, e := turn.Plans(round, n, append(slices.Clone(spans), someSpans(rng, round, n, 1, round)...)); k > count || e != api.OK {
			t.Fatal(round, n, spans, k, e)
		}
		wide, all := slices.Clone(spans), slices.Clone(spans)
		i := rng.Intn(len(spans))
		less := rng.Intn(spans[i].Low + round - spans[i].High)
		wide[i].Low = max(wide[i].Low-less, -api.MaxHours)
		wide[i].High += rng.Intn(wide[i].Low + round - wide[i].High)
		if k, e := turn.Plans(round, n, wide); k < count || e != api.OK {
			t.Fatal(round, n, spans, wide, k, e)
		}
		all[i].High = all[i].Low + round - 1
		without, _ := turn.Plans(round, n, slices.Delete(slices.Clone(spans), i, i+1))
		if k, e := turn.Plans(round, n, all); k != without || e != api.OK {
			t.Fatal(round, n, all, k, e)
		}
	}
}

func TestMemory(t *testing.T) {
	spans, plan, ring := three(3, 4), []int{0, 3, 6}, []int{1, 2, 3}
	for name, call := range calls(10, 3, spans, plan, ring) {
		call()
		if !slices.Equal(spans, three(3, 4)) || !slices.Equal(plan, []int{0, 3, 6}) || !slices.Equal(ring, []int{1, 2, 3}) {
			t.Fatal(name, spans, plan, ring)
		}
	}
	for range 2 {
		l, _ := turn.Plan(10, 3, spans)
		best, _, _ := turn.Shortest(10, 3, spans)
		slacks, _ := turn.Slack(10, 3, spans, plan)
		round, _ := turn.Ring(10, 3, three(3, 3))
		if !slices.Equal(l, []int{0, 3, 6}) || !slices.Equal(best, l) || !slices.Equal(slacks, []int{0, 0, 1}) || !slices.Equal(round, []int{1, 2, 3}) {
			t.Fatal(l, best, slacks, round)
		}
		for _, list := range [][]int{l, best, slacks, round} {
			clear(list[:cap(list)])
		}
	}
}

// TestAnyArguments calls all functions with numbers of any size; what they return is the same twice.
func TestAnyArguments(t *testing.T) {
	rng := rand.New(rand.NewSource(46))
	number := func() int {
		odd := []int{math.MinInt, math.MinInt + 1, math.MaxInt, -601, -600, 600, 601, 24, 25}
		if rng.Intn(12) == 0 {
			return odd[rng.Intn(len(odd))]
		}
		return rng.Intn(8) - 1
	}
	list := func() []int {
		out := make([]int, rng.Intn(8))
		for i := range out {
			out[i] = number()
		}
		return out
	}
	for range 20000 {
		spans := make([]api.Span, rng.Intn(4))
		for i := range spans {
			spans[i] = api.Span{From: number(), To: number(), Low: number(), High: number()}
		}
		round, n := number(), number()
		again := calls(round, n, spans, list(), list())
		for name, call := range again {
			zero, e := call()
			if e != api.OK && !zero {
				t.Fatal(name, round, n, spans, e)
			}
			if zeroAgain, f := again[name](); zeroAgain != zero || f != e {
				t.Fatal(name, round, n, spans, e, f)
			}
		}
	}
}
