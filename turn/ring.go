package turn

import "dibber/api"

// step returns a step of a ring as a span that is gone along, whichever way the step goes; false if there is none.
func (d demands) step(number int) (api.Span, bool) {
	last := len(d.spans)
	switch {
	case number >= 1 && number <= last:
		return d.spans[number-1], true
	case number <= -1 && number >= -last:
		return turned(d.spans[-number-1]), true
	}
	return api.Span{}, false
}

// ring returns the steps of a ring; false if a list is not a ring.
func (d demands) ring(numbers []int) ([]api.Span, bool) {
	var met [api.MaxEvents]bool
	var out []api.Span
	for i, number := range numbers {
		s, ok := d.step(number)
		if !ok || met[s.To] || i > 0 && s.From != out[i-1].To {
			return nil, false
		}
		met[s.To] = true
		out = append(out, s)
	}
	if len(out) < 2 || out[len(out)-1].To != out[0].From {
		return nil, false
	}
	return out, true
}

// refuse reports whether no whole number of rounds is from the least to the greatest sum of a ring.
func (d demands) refuse(least, greatest int) bool {
	return greatest-d.modulo(greatest) < least
}

// refusing returns the lexicographically least ring that refuses, of those with so many steps whose first number is
// above 0; nil if there is none.
func (d demands) refusing(steps int) []int {
	var met [api.MaxEvents]bool
	var numbers []int
	start := 0
	var finish func(at, least, greatest int) bool
	finish = func(at, least, greatest int) bool {
		if len(numbers) == steps {
			return at == start && d.refuse(least, greatest)
		}
		if met[at] {
			return false
		}
		met[at] = true
		for number := -len(d.spans); number <= len(d.spans); number++ {
			s, ok := d.step(number)
			if !ok || s.From != at {
				continue
			}
			numbers = append(numbers, number)
			if finish(s.To, least+s.Low, greatest+s.High) {
				return true
			}
			numbers = numbers[:len(numbers)-1]
		}
		met[at] = false
		return false
	}
	for i, s := range d.spans {
		start = s.From
		met[start] = true
		numbers = append(numbers[:0], i+1)
		if finish(s.To, s.Low, s.High) {
			return numbers
		}
		met[start] = false
	}
	return nil
}

// Refuses reports whether a list is a ring that refuses.
func Refuses(t, n int, spans []api.Span, ring []int) (bool, api.Errno) {
	d, e := read(t, n, spans)
	if e != api.OK {
		return false, e
	}
	least, greatest := 0, 0
	steps, ok := d.ring(ring)
	for _, s := range steps {
		least += s.Low
		greatest += s.High
	}
	return ok && d.refuse(least, greatest), api.OK
}

// Ring returns the shortest ring that refuses, of several the lexicographically least one that begins along a span.
func Ring(t, n int, spans []api.Span) ([]int, api.Errno) {
	d, e := read(t, n, spans)
	if e != api.OK {
		return nil, e
	}
	for steps := 2; steps <= n; steps++ {
		if ring := d.refusing(steps); ring != nil {
			return ring, api.OK
		}
	}
	return nil, api.ErrPlan
}

// Rounds returns how many rounds go by along a ring, with a plan. A plan keeps all spans, so a span gone against takes
// the same time, with a minus sign, as the turned one gone along.
func Rounds(t, n int, spans []api.Span, plan, ring []int) (int, api.Errno) {
	d, e := read(t, n, spans)
	if e != api.OK {
		return 0, e
	}
	steps, ok := d.ring(ring)
	if !ok || !d.isPlan(plan) {
		return 0, api.ErrArg
	}
	sum := 0
	for _, s := range steps {
		sum += s.Low + d.slack(s, plan)
	}
	return sum / t, api.OK
}

// Free returns how many spans can be left out, and still all events can be reached that can be reached with them.
func Free(t, n int, spans []api.Span) (int, api.Errno) {
	d, e := read(t, n, spans)
	if e != api.OK {
		return 0, e
	}
	group := make([]int, d.events)
	for event := range group {
		group[event] = event
	}
	free := 0
	for _, s := range spans {
		into, from := group[s.To], group[s.From]
		if into == from {
			free++
		}
		for event := range group {
			if group[event] == from {
				group[event] = into
			}
		}
	}
	return free, api.OK
}
