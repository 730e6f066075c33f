package luck

import (
	"math/bits"

	"dibber/api"
)

// isGoal reports whether a goal has a valid number for each series of k nights.
func isGoal(k int, goal []int) bool {
	if k < 1 || k > api.MaxGoal || len(goal) != 1<<k {
		return false
	}
	for _, g := range goal {
		if g < 0 || g > k*api.MaxSixtieths {
			return false
		}
	}
	return true
}

// after returns the part of a goal that is left when a night has been.
func after(goal []int, night int) []int {
	half := len(goal) / 2
	if night == 0 {
		return goal[:half]
	}
	return goal[half:]
}

// room returns how much may have been lost before the nights of a goal, so that it can still be kept; in parts of a sixtieth, as many parts as there are series. Below 0 it cannot be kept at all.
func room(goal []int) int {
	if len(goal) == 1 {
		return goal[0]
	}
	room0, room1 := room(after(goal, 0)), room(after(goal, 1))
	// A guess p leaves room0 - p and room1 - (1 - p) of the room, in a whole; the lesser of both is greatest where they are the same, or at 0 or at 1.
	same := room0 + room1 - api.MaxSixtieths*len(goal)/2
	return min(same, 2*room0, 2*room1)
}

// Can returns 1 if one can guess so that no series loses more than the goal allows.
func Can(k int, goal []int) (int, api.Errno) {
	if !isGoal(k, goal) {
		return 0, api.ErrArg
	}
	if room(goal) < 0 {
		return 0, api.OK
	}
	return 1, api.OK
}

// guess returns the guess for the first night of a goal, in parts of which parts make a whole.
func guess(goal []int) (p, parts int) {
	parts = api.MaxSixtieths * len(goal)
	p = parts/2 + sum(after(goal, 0)) - sum(after(goal, 1))
	return max(0, min(p, parts)), parts
}

func sum(list []int) int {
	out := 0
	for _, x := range list {
		out += x
	}
	return out
}

// Guess returns what to guess after some nights, by the means of what the goal allows after them.
func Guess(k int, goal []int, nights []int) (api.Ratio, api.Errno) {
	can, e := Can(k, goal)
	if e != api.OK {
		return api.Ratio{}, e
	}
	if len(nights) >= k || !areBits(nights, len(nights)) {
		return api.Ratio{}, api.ErrArg
	}
	if can == 0 {
		return api.Ratio{}, api.ErrPlan
	}
	for _, night := range nights {
		goal = after(goal, night)
	}
	return lowest(guess(goal)), api.OK
}

// Loss returns what is lost with a series by guessing as Guess does.
func Loss(k int, goal []int, series int) (api.Ratio, api.Errno) {
	can, e := Can(k, goal)
	if e != api.OK {
		return api.Ratio{}, e
	}
	if series < 0 || series >= len(goal) {
		return api.Ratio{}, api.ErrRange
	}
	if can == 0 {
		return api.Ratio{}, api.ErrPlan
	}
	lost, whole := 0, api.MaxSixtieths*len(goal)
	for night := range k {
		p, parts := guess(goal)
		came := series >> (k - 1 - night) & 1
		if came == 1 {
			p = parts - p
		}
		lost += p * (whole / parts)
		goal = after(goal, came)
	}
	return lowest(lost, whole), api.OK
}

// Regret returns how much more than the best foreteller one loses at most, guessing as well as can be.
func Regret(k, folk int, said [][]int) (api.Ratio, api.Errno) {
	if k < 1 || k > api.MaxGoal || folk < 1 || folk > api.MaxFolk || !areSaid(said, k, folk) {
		return api.Ratio{}, api.ErrArg
	}
	series := make([]int, folk)
	for _, says := range said {
		for who, say := range says {
			series[who] = 2*series[who] + say
		}
	}
	all := 1 << k
	wrong := 0
	for came := range all {
		wrong += fewest(series, came)
	}
	return lowest(k*all-2*wrong, 2*all), api.OK
}

// fewest returns how often the best one of those who foretell a series each is wrong.
func fewest(series []int, came int) int {
	out := api.MaxGoal
	for _, s := range series {
		out = min(out, bits.OnesCount(uint(s^came)))
	}
	return out
}

// lowest returns a ratio in lowest terms; num is not below 0, and den is above it.
func lowest(num, den int) api.Ratio {
	a, b := num, den
	for b != 0 {
		a, b = b, a%b
	}
	return api.Ratio{Num: num / a, Den: den / a}
}
