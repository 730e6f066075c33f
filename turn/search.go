package turn

import (
	"iter"
	"math/bits"

	"dibber/api"
)

// hours is a set of hours of a round: its bit h is the hour h.
type hours uint32

// least returns the least hour of a set that is not empty.
func (h hours) least() int { return bits.TrailingZeros32(uint32(h)) }

// withoutLeast returns the set without its least hour.
func (h hours) withoutLeast() hours { return h & (h - 1) }

// all returns all hours of the round.
func (d demands) all() hours { return 1<<d.round - 1 }

// later returns the hours that come some hours after those of a set, from 0 to a round less 1.
func (d demands) later(h hours, by int) hours {
	return (h<<by | h>>(d.round-by)) & d.all()
}

// distances tell of two events, the one with the less number first, by how many hours the second may come later.
type distances [api.MaxEvents][api.MaxEvents]hours

func (d demands) distances() distances {
	var out distances
	for i := range out {
		for j := range out {
			out[i][j] = d.all()
		}
	}
	for _, s := range d.spans {
		if s.From > s.To {
			s = turned(s)
		}
		fits := hours(1)<<(s.High-s.Low+1) - 1
		out[s.From][s.To] &= d.later(fits, d.modulo(s.Low))
	}
	return out
}

// plans yields all plans, the lexicographically least one first. It is always the same list that is yielded, with
// other hours.
func (d demands) plans() iter.Seq[[]int] {
	return func(yield func([]int) bool) {
		fits := d.distances()
		plan := make([]int, d.events)
		untried := make([]hours, d.events)
		untried[0] = 1
		event := 0
	search:
		for event >= 0 {
			for untried[event] != 0 {
				plan[event] = untried[event].least()
				untried[event] = untried[event].withoutLeast()
				if event+1 < d.events {
					event++
					untried[event] = d.open(fits, plan[:event])
					continue search
				}
				if !yield(plan) {
					return
				}
			}
			event--
		}
	}
}

// open returns the hours that are left to an event by those of all events before it.
func (d demands) open(fits distances, before []int) hours {
	out := d.all()
	for i, hour := range before {
		out &= d.later(fits[i][len(before)], hour)
	}
	return out
}
