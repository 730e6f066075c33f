package turn_test

import (
	"math"
	"math/rand"
	"slices"
	"testing"

	"dibber/api"
	"dibber/turn"
)

// five goes around six events in five hours each time, with a last span that takes as many hours as is said.
func five(last int) []api.Span {
	var out []api.Span
	for i := range 5 {
		out = append(out, api.Span{From: i, To: i + 1, Low: 5, High: 5})
	}
	return append(out, api.Span{From: 5, To: 0, Low: last, High: last})
}

func TestRing(t *testing.T) {
	around := []int{1, 2, 3, 4, 5, 6}
	for _, c := range []struct {
		t, n  int
		spans []api.Span
		want  []int
	}{
		{10, 3, three(3, 3), []int{1, 2, 3}},
		{10, 3, turned(three(3, 3)), []int{1, 3, 2}},
		{10, 2, []api.Span{{From: 1, To: 0, Low: 2, High: 3}, {From: 1, To: 0, Low: 5, High: 6}}, []int{1, -2}},
		{10, 2, []api.Span{{From: 1, To: 0, Low: 2, High: 3}, {From: 0, To: 1, Low: 5, High: 6}}, []int{1, 2}},
		{10, 2, []api.Span{{From: 0, To: 1, Low: 2, High: 2}, {From: 0, To: 1, Low: 2, High: 2}, {From: 0, To: 1, Low: 3, High: 3}, {From: 1, To: 0, Low: 7, High: 7}}, []int{1, -3}},
		{10, 2, []api.Span{{From: 0, To: 1, Low: 2, High: 2}, {From: 0, To: 1, Low: 3, High: 3}, {From: 0, To: 1, Low: 4, High: 4}}, []int{1, -3}},
		{24, 6, five(0), around},
		{24, 6, five(22), around},
		{24, 6, slices.Concat(five(22), slices.Repeat([]api.Span{{From: 3, To: 0, Low: 0, High: 23}}, 14)), around},
		{24, 6, slices.Concat(five(22), []api.Span{{From: 2, To: 1, Low: 1, High: 18}}), []int{2, 7}},
		{24, 6, slices.Concat(five(22), []api.Span{{From: 2, To: 0, Low: 1, High: 13}}), []int{1, 2, 7}},
		{24, 6, slices.Concat(five(22), []api.Span{{From: 0, To: 2, Low: 1, High: 9}}), []int{1, 2, -7}},
	} {
		if l, e := turn.Ring(c.t, c.n, c.spans); !slices.Equal(l, c.want) || e != api.OK {
			t.Error(c, l, e)
		}
		if _, e := turn.Plan(c.t, c.n, c.spans); e != api.ErrPlan {
			t.Error(c, e)
		}
	}
}

func TestNoRing(t *testing.T) {
	for _, c := range []struct {
		t, n  int
		spans []api.Span
	}{
		{10, 1, nil},
		{24, 6, nil},
		{10, 3, three(3, 4)},
		{1, 3, three(3, 3)},
		{24, 6, five(23)},
		{24, 6, five(-1)},
		{24, 6, five(23)[1:]},
		{10, 2, []api.Span{{From: 0, To: 1, Low: 3, High: 3}, {From: 0, To: 1, Low: -7, High: -7}}},
	} {
		if l, e := turn.Ring(c.t, c.n, c.spans); len(l) != 0 || e != api.ErrPlan {
			t.Error(c, l, e)
		}
		if _, e := turn.Plan(c.t, c.n, c.spans); e != api.OK {
			t.Error(c, e)
		}
	}
}

func TestRefuses(t *testing.T) {
	for _, c := range []struct {
		ring []int
		want bool
	}{
		{[]int{1, 2, 3}, true},
		{[]int{2, 3, 1}, true},
		{[]int{-3, -2, -1}, true},
		{[]int{-1, -3, -2}, true},
		{[]int{1, 2, -4}, false},
		{[]int{4, 3}, true},
		{[]int{-3, -4}, true},
		{[]int{1, 2, 3, 1, 2, 3}, false},
		{[]int{1, -1}, false},
		{[]int{-4, 4}, false},
		{[]int{1, -2}, false},
		{[]int{1, 3, 2}, false},
		{[]int{1, 2}, false},
		{[]int{1}, false},
		{[]int{1, 2, 5}, false},
		{[]int{1, 2, -5}, false},
		{[]int{0, 1, 2, 3}, false},
		{[]int{math.MinInt, math.MaxInt}, false},
		{slices.Repeat([]int{1, 2, 3}, 1000), false},
		{nil, false},
	} {
		spans := append(three(3, 3), api.Span{From: 0, To: 2, Low: 6, High: 6})
		if ok, e := turn.Refuses(10, 3, spans, c.ring); ok != c.want || e != api.OK {
			t.Error(c, ok, e)
		}
	}
}

// TestSumsOfRings has sums of one ring around each number, above and below 0.
func TestSumsOfRings(t *testing.T) {
	for low := -40; low <= 40; low++ {
		for wide := range 10 {
			spans := []api.Span{{From: 0, To: 1, Low: low, High: low + wide}, {From: 1, To: 0}}
			for _, ring := range [][]int{{1, 2}, {-2, -1}} {
				want := refuses(10, spans, ring)
				if ok, e := turn.Refuses(10, 2, spans, ring); ok != want || e != api.OK {
					t.Error(spans, ring, ok, e)
				}
			}
		}
	}
}

func TestRandomRings(t *testing.T) {
	rng := rand.New(rand.NewSource(47))
	found := 0
	for range 600 {
		round, n := 1+rng.Intn(10), 2+rng.Intn(3)
		found += wantRing(t, round, n, someSpans(rng, round, n, 1+rng.Intn(4), 3))
	}
	for range 15 {
		found += wantRing(t, 24, 3, someSpans(rng, 24, 3, 15, 24))
		found += wantRing(t, 8, 5, someSpans(rng, 8, 5, 5, 3))
	}
	if found < 100 {
		t.Error(found)
	}
}

// wantRing compares with all lists of steps, and returns the number of rings found.
func wantRing(t *testing.T, round, n int, spans []api.Span) int {
	t.Helper()
	var first []int
	for steps := range n + 1 {
		for _, l := range lists(steps, -len(spans), len(spans)) {
			want := refuses(round, spans, l)
			if ok, e := turn.Refuses(round, n, spans, l); ok != want || e != api.OK {
				t.Fatal(round, n, spans, l, ok, e)
			}
			if want && l[0] > 0 && first == nil {
				first = l
			}
		}
	}
	l, e := turn.Ring(round, n, spans)
	if first == nil {
		if len(l) != 0 || e != api.ErrPlan {
			t.Fatal(round, n, spans, l, e)
		}
		return 0
	}
	if !slices.Equal(l, first) || e != api.OK {
		t.Fatal(round, n, spans, l, e, first)
	}
	return 1
}

func TestRounds(t *testing.T) {
	long := five(-1 + 24*25)
	hours := []int{0, 5, 10, 15, 20, 1}
	for _, c := range []struct {
		t, n       int
		spans      []api.Span
		plan, ring []int
		want       int
	}{
		{10, 3, three(3, 4), []int{0, 3, 6}, []int{1, 2, 3}, 1},
		{10, 3, three(3, 4), []int{0, 4, 7}, []int{3, 1, 2}, 1},
		{10, 3, three(3, 4), []int{0, 3, 6}, []int{-1, -3, -2}, -1},
		{10, 3, three(3, 4), []int{0, 3, 6}, []int{1, -1}, 0},
		{10, 3, three(3, 4), []int{0, 3, 6}, []int{-2, 2}, 0},
		{1, 3, three(7, 7), []int{0, 0, 0}, []int{1, 2, 3}, 21},
		{10, 2, []api.Span{{From: 0, To: 1, Low: -3, High: -3}, {From: 0, To: 1, Low: 27, High: 29}}, []int{0, 7}, []int{1, -2}, -3},
		{24, 6, long, hours, []int{1, 2, 3, 4, 5, 6}, 26},
		{24, 6, long, hours, []int{-6, -5, -4, -3, -2, -1}, -26},
	} {
		if k, e := turn.Rounds(c.t, c.n, c.spans, c.plan, c.ring); k != c.want || e != api.OK {
			t.Error(c, k, e)
		}
	}
}

func TestRoundsRefuses(t *testing.T) {
	plan, ring := []int{0, 3, 6}, []int{1, 2, 3}
	for _, l := range append(broken, []int{0, 3, 5}, []int{1, 4, 7}, []int{0, 0, 0}) {
		if k, e := turn.Rounds(10, 3, three(3, 4), l, ring); k != 0 || e != api.ErrArg {
			t.Error(l, k, e)
		}
	}
	for _, l := range [][]int{nil, {}, {1}, {1, 2}, {1, 3, 2}, {1, 2, 4}, {0, 1, 2, 3}, {1, 2, 3, 1}, {1, 2, 3, 1, 2, 3}, {-1, 2, 3}, {-4, 1}, {math.MinInt, math.MaxInt}} {
		if k, e := turn.Rounds(10, 3, three(3, 4), plan, l); k != 0 || e != api.ErrArg {
			t.Error(l, k, e)
		}
	}
}

func TestRandomRounds(t *testing.T) {
	rng := rand.New(rand.NewSource(48))
	seen := 0
	for range 300 {
		round, n := 1+rng.Intn(10), 2+rng.Intn(3)
		spans := someSpans(rng, round, n, 2+rng.Intn(3), round)
		plan, e := turn.Plan(round, n, spans)
		if e != api.OK {
			continue
		}
		if l, _, e := turn.Shortest(round, n, spans); e == api.OK && rng.Intn(2) == 0 {
			plan = l
		}
		for steps := range n + 1 {
			for _, ring := range lists(steps, -len(spans), len(spans)) {
				if isRing(spans, ring) {
					seen++
					wantRounds(t, round, n, spans, plan, ring)
				} else if k, e := turn.Rounds(round, n, spans, plan, ring); k != 0 || e != api.ErrArg {
					t.Fatal(round, n, spans, plan, ring, k, e)
				}
			}
		}
	}
	if seen < 1000 {
		t.Error(seen)
	}
}

func wantRounds(t *testing.T, round, n int, spans []api.Span, plan, ring []int) {
	t.Helper()
	sum := 0
	for _, step := range ring {
		s, _, _ := span(spans, step)
		if step > 0 {
			sum += s.Low + slack(round, s, plan)
		} else {
			sum -= s.Low + slack(round, s, plan)
		}
	}
	least, greatest := sums(spans, ring)
	k, e := turn.Rounds(round, n, spans, plan, ring)
	if k*round != sum || k*round < least || k*round > greatest || e != api.OK {
		t.Fatal(round, n, spans, plan, ring, k, e, sum)
	}
}

func TestFree(t *testing.T) {
	for _, c := range []struct {
		n     int
		spans []api.Span
		want  int
	}{
		{1, nil, 0},
		{6, nil, 0},
		{3, three(3, 4), 1},
		{3, three(3, 4)[:2], 0},
		{6, three(3, 4), 1},
		{6, slices.Repeat(three(3, 4)[:1], 20), 19},
		{6, five(0), 1},
		{6, five(0)[1:], 0},
		{6, append(five(0), three(1, 1)...), 4},
	} {
		if k, e := turn.Free(10, c.n, c.spans); k != c.want || e != api.OK {
			t.Error(c, k, e)
		}
	}
	rng := rand.New(rand.NewSource(49))
	for range 3000 {
		n := 2 + rng.Intn(5)
		spans := someSpans(rng, 10, n, rng.Intn(21), 10)
		want := len(spans) - n + groups(n, spans)
		if k, e := turn.Free(10, n, spans); k != want || e != api.OK {
			t.Fatal(n, spans, k, e, want)
		}
	}
}

func TestRingsAndPlans(t *testing.T) {
	rng := rand.New(rand.NewSource(50))
	var refused, none, one int
	for range 4000 {
		round, n := 1+rng.Intn(24), 2+rng.Intn(5)
		spans := someSpans(rng, round, n, n-1+rng.Intn(3), 4)
		_, ring := turn.Ring(round, n, spans)
		_, plan := turn.Plan(round, n, spans)
		free, _ := turn.Free(round, n, spans)
		if ring == api.OK {
			refused++
			if plan != api.ErrPlan {
				t.Fatal(round, n, spans)
			}
		}
		if free == 0 {
			none++
			if plan != api.OK {
				t.Fatal(round, n, spans)
			}
		}
		if free == 1 && groups(n, spans) == 1 {
			one++
			if (plan == api.OK) != (ring == api.ErrPlan) {
				t.Fatal(round, n, spans)
			}
		}
	}
	if refused < 300 || none < 100 || one < 300 {
		t.Error(refused, none, one)
	}
}

func TestTurned(t *testing.T) {
	rng := rand.New(rand.NewSource(51))
	for range 1000 {
		round, n := 1+rng.Intn(12), 2+rng.Intn(3)
		spans := someSpans(rng, round, n, 1+rng.Intn(6), round)
		if slices.ContainsFunc(spans, func(s api.Span) bool { return s.High > api.MaxHours }) {
			continue
		}
		other := turned(spans)
		k, e := turn.Plans(round, n, spans)
		if l, f := turn.Plans(round, n, other); k != l || e != api.OK || f != api.OK {
			t.Fatal(round, n, spans, k, l)
		}
		ring, e := turn.Ring(round, n, spans)
		_, f := turn.Ring(round, n, other)
		if e != f {
			t.Fatal(round, n, spans, e, f)
		}
		if e != api.OK {
			continue
		}
		slices.Reverse(ring)
		if ok, e := turn.Refuses(round, n, other, ring); !ok || e != api.OK {
			t.Fatal(round, n, spans, ring, ok, e)
		}
	}
}
