package turn_test

import (
	"math"
	"math/rand"
	"slices"

	"dibber/api"
	"dibber/turn"
)

// three spans of low to high hours, around three events.
func three(low, high int) []api.Span {
	return []api.Span{{From: 0, To: 1, Low: low, High: high}, {From: 1, To: 2, Low: low, High: high}, {From: 2, To: 0, Low: low, High: high}}
}

// million has exactly 1000000 plans of 6 events in a round of 24 hours.
var million = []api.Span{
	{From: 0, To: 1, Low: 0, High: 21},
	{From: 0, To: 2, Low: 0, High: 15},
	{From: 0, To: 3, Low: 0, High: 14},
	{From: 0, To: 4, Low: 0, High: 13},
	{From: 0, To: 5, Low: 0, High: 23},
	{From: 1, To: 2, Low: -4, High: 17},
	{From: 2, To: 3, Low: -5, High: 13},
	{From: 3, To: 4, Low: -9, High: 10},
	{From: 4, To: 5, Low: -9, High: 10},
}

// oneMore has one plan more than million.
var oneMore = []api.Span{
	{From: 0, To: 1, Low: 0, High: 19},
	{From: 0, To: 2, Low: 0, High: 13},
	{From: 0, To: 3, Low: 0, High: 23},
	{From: 0, To: 4, Low: 0, High: 15},
	{From: 0, To: 5, Low: 0, High: 18},
	{From: 1, To: 2, Low: -11, High: 7},
	{From: 2, To: 3, Low: -16, High: 5},
	{From: 3, To: 4, Low: -15, High: 5},
	{From: 4, To: 5, Low: -18, High: 0},
}

// wrong are demands that are not valid, with their errors.
var wrong = []struct {
	t, n  int
	spans []api.Span
	want  api.Errno
}{
	{0, 3, nil, api.ErrArg},
	{-1, 3, nil, api.ErrArg},
	{25, 3, nil, api.ErrArg},
	{math.MinInt, 3, nil, api.ErrArg},
	{math.MaxInt, 3, nil, api.ErrArg},
	{10, 0, nil, api.ErrArg},
	{10, -1, nil, api.ErrArg},
	{10, 7, nil, api.ErrArg},
	{10, math.MinInt, nil, api.ErrArg},
	{10, math.MaxInt, nil, api.ErrArg},
	{10, 3, slices.Repeat(three(1, 2), 7), api.ErrLimit},
	{10, 3, slices.Repeat([]api.Span{{}}, 21), api.ErrLimit},
	{0, 3, slices.Repeat([]api.Span{{}}, 21), api.ErrArg},
	{10, 7, slices.Repeat([]api.Span{{}}, 21), api.ErrArg},
	{10, 3, slices.Repeat([]api.Span{{}}, 20), api.ErrArg},
	{10, 3, []api.Span{{From: 0, To: 0, Low: 1, High: 2}}, api.ErrArg},
	{10, 3, []api.Span{{From: 2, To: 2, Low: 0, High: 9}}, api.ErrArg},
	{10, 1, []api.Span{{From: 0, To: 1, Low: 1, High: 2}}, api.ErrArg},
	{10, 3, []api.Span{{From: 0, To: 3, Low: 1, High: 2}}, api.ErrArg},
	{10, 3, []api.Span{{From: 3, To: 0, Low: 1, High: 2}}, api.ErrArg},
	{10, 3, []api.Span{{From: -1, To: 0, Low: 1, High: 2}}, api.ErrArg},
	{10, 3, []api.Span{{From: 0, To: -1, Low: 1, High: 2}}, api.ErrArg},
	{10, 3, []api.Span{{From: math.MinInt, To: math.MaxInt, Low: 1, High: 2}}, api.ErrArg},
	{10, 3, []api.Span{{From: 0, To: 1, Low: 3, High: 2}}, api.ErrArg},
	{10, 3, []api.Span{{From: 0, To: 1, Low: 3, High: 13}}, api.ErrArg},
	{1, 3, []api.Span{{From: 0, To: 1, Low: 3, High: 4}}, api.ErrArg},
	{10, 3, []api.Span{{From: 0, To: 1, Low: -601, High: -600}}, api.ErrArg},
	{10, 3, []api.Span{{From: 0, To: 1, Low: 601, High: 601}}, api.ErrArg},
	{10, 3, []api.Span{{From: 0, To: 1, Low: math.MinInt, High: math.MaxInt}}, api.ErrArg},
	{10, 3, []api.Span{{From: 0, To: 1, Low: math.MaxInt, High: math.MinInt}}, api.ErrArg},
	{10, 3, []api.Span{{From: 0, To: 1, Low: math.MaxInt, High: math.MaxInt}}, api.ErrArg},
	{10, 3, []api.Span{{From: 0, To: 1, Low: 0, High: math.MaxInt}}, api.ErrArg},
	{10, 3, append(three(3, 3), api.Span{From: 0, To: 1, Low: 0, High: 10}), api.ErrArg},
}

// calls are all functions of the package, told whether all results beside the error are zero.
func calls(t, n int, spans []api.Span, plan, ring []int) map[string]func() (bool, api.Errno) {
	return map[string]func() (bool, api.Errno){
		"Plan":     func() (bool, api.Errno) { l, e := turn.Plan(t, n, spans); return len(l) == 0, e },
		"Is":       func() (bool, api.Errno) { ok, e := turn.Is(t, n, spans, plan); return !ok, e },
		"Plans":    func() (bool, api.Errno) { k, e := turn.Plans(t, n, spans); return k == 0, e },
		"Slack":    func() (bool, api.Errno) { l, e := turn.Slack(t, n, spans, plan); return len(l) == 0, e },
		"Refuses":  func() (bool, api.Errno) { ok, e := turn.Refuses(t, n, spans, ring); return !ok, e },
		"Ring":     func() (bool, api.Errno) { l, e := turn.Ring(t, n, spans); return len(l) == 0, e },
		"Rounds":   func() (bool, api.Errno) { k, e := turn.Rounds(t, n, spans, plan, ring); return k == 0, e },
		"Shortest": func() (bool, api.Errno) { l, k, e := turn.Shortest(t, n, spans); return len(l) == 0 && k == 0, e },
		"Free":     func() (bool, api.Errno) { k, e := turn.Free(t, n, spans); return k == 0, e },
	}
}

// lists are all lists of so many numbers from low to high, in lexicographic order.
func lists(length, low, high int) [][]int {
	out := [][]int{nil}
	for range length {
		var longer [][]int
		for _, l := range out {
			for k := low; k <= high; k++ {
				longer = append(longer, append(slices.Clone(l), k))
			}
		}
		out = longer
	}
	return out
}

// slack takes whole rounds away, or adds them, one by one.
func slack(t int, s api.Span, plan []int) int {
	out := plan[s.To] - plan[s.From] - s.Low
	for out < 0 {
		out += t
	}
	for out >= t {
		out -= t
	}
	return out
}

func isPlan(t int, spans []api.Span, plan []int) bool {
	for _, s := range spans {
		if slack(t, s, plan) > s.High-s.Low {
			return false
		}
	}
	return plan[0] == 0
}

// plans are all plans, in lexicographic order.
func plans(t, n int, spans []api.Span) [][]int {
	var out [][]int
	for _, l := range lists(n, 0, t-1) {
		if isPlan(t, spans, l) {
			out = append(out, l)
		}
	}
	return out
}

// span is the span of a step, and the events at which the step begins and ends.
func span(spans []api.Span, step int) (s api.Span, from, to int) {
	if step > 0 {
		s = spans[step-1]
		return s, s.From, s.To
	}
	s = spans[-step-1]
	return s, s.To, s.From
}

func isRing(spans []api.Span, ring []int) bool {
	for _, step := range ring {
		if step == 0 || step > len(spans) || step < -len(spans) {
			return false
		}
	}
	met := map[int]bool{}
	for i, step := range ring {
		_, from, _ := span(spans, step)
		_, _, before := span(spans, ring[(i+len(ring)-1)%len(ring)])
		if from != before || met[from] {
			return false
		}
		met[from] = true
	}
	return len(ring) >= 2
}

// sums are the least and the greatest sum of a ring.
func sums(spans []api.Span, ring []int) (least, greatest int) {
	for _, step := range ring {
		s, _, _ := span(spans, step)
		if step > 0 {
			least, greatest = least+s.Low, greatest+s.High
		} else {
			least, greatest = least-s.High, greatest-s.Low
		}
	}
	return least, greatest
}

func refuses(t int, spans []api.Span, ring []int) bool {
	if !isRing(spans, ring) {
		return false
	}
	least, greatest := sums(spans, ring)
	for k := least; k <= greatest; k++ {
		if k%t == 0 {
			return false
		}
	}
	return true
}

// groups counts the groups of events that hang together: from each event not yet seen all others are reached.
func groups(n int, spans []api.Span) int {
	out := 0
	seen := make([]bool, n)
	var see func(event int)
	see = func(event int) {
		if seen[event] {
			return
		}
		seen[event] = true
		for _, s := range spans {
			if s.From == event {
				see(s.To)
			}
			if s.To == event {
				see(s.From)
			}
		}
	}
	for event := range n {
		if !seen[event] {
			out++
			see(event)
		}
	}
	return out
}

// someSpans are valid spans, at most so wide as is said.
func someSpans(rng *rand.Rand, t, n, count, wide int) []api.Span {
	var out []api.Span
	for range count {
		from := rng.Intn(n)
		to := (from + 1 + rng.Intn(n-1)) % n
		low := rng.Intn(3*t) - 2*t
		if rng.Intn(20) == 0 {
			low = []int{-api.MaxHours, api.MaxHours}[rng.Intn(2)]
		}
		out = append(out, api.Span{From: from, To: to, Low: low, High: low + rng.Intn(min(t, wide))})
	}
	return out
}

// turned are the same demands, told the other way round.
func turned(spans []api.Span) []api.Span {
	var out []api.Span
	for _, s := range spans {
		out = append(out, api.Span{From: s.To, To: s.From, Low: -s.High, High: -s.Low})
	}
	return out
}
