package luck_test

import (
	"math/big"
	"math/rand"
	"slices"

	"dibber/api"
)

// record is what some foretellers said each night, and what came.
type record struct {
	n    int
	said [][]int
	came []int
}

func someBits(rng *rand.Rand, length int) []int {
	out := make([]int, length)
	for i := range out {
		out[i] = rng.Intn(2)
	}
	return out
}

func someSaid(rng *rand.Rand, nights, n int) [][]int {
	out := make([][]int, nights)
	for i := range out {
		out[i] = someBits(rng, n)
	}
	return out
}

// someRecord has foretellers of whom some are mostly right and some mostly wrong.
func someRecord(rng *rand.Rand, n, nights int) record {
	r := record{n, someSaid(rng, nights, n), someBits(rng, nights)}
	for who := range n {
		skill := rng.Intn(12)
		for night, says := range r.said {
			if rng.Intn(10) < skill {
				says[who] = r.came[night]
			} else if skill < 2 {
				says[who] = 1 - r.came[night]
			}
		}
	}
	return r
}

// mistakes counts the nights at which something else was told than came.
func mistakes(told, came []int) int {
	out := 0
	for i := range told {
		if told[i] != came[i] {
			out++
		}
	}
	return out
}

// by is what one foreteller said each night.
func (r record) by(who int) []int {
	out := make([]int, len(r.said))
	for night, says := range r.said {
		out[night] = says[who]
	}
	return out
}

// wrongs is how often each foreteller was wrong before a night.
func (r record) wrongs(night int) []int {
	out := make([]int, r.n)
	for who := range out {
		out[who] = mistakes(r.by(who)[:night], r.came[:night])
	}
	return out
}

func (r record) halving() []int {
	out := make([]int, len(r.said))
	for night, says := range r.said {
		var asked [2]int
		for who, w := range r.wrongs(night) {
			if w == 0 {
				asked[says[who]]++
			}
		}
		if asked[1] > asked[0] {
			out[night] = 1
		}
	}
	return out
}

func (r record) weighing() []int {
	out := make([]int, len(r.said))
	for night, says := range r.said {
		sums := [2]*big.Rat{new(big.Rat), new(big.Rat)}
		for who, w := range r.wrongs(night) {
			weight := new(big.Rat).SetFrac(big.NewInt(1), power(2, w))
			sums[says[who]].Add(sums[says[who]], weight)
		}
		if sums[1].Cmp(sums[0]) > 0 {
			out[night] = 1
		}
	}
	return out
}

func (r record) winnow() []int {
	weights := slices.Repeat([]int{1}, r.n)
	out := make([]int, len(r.said))
	for night, says := range r.said {
		sum := 0
		for who := range r.n {
			if says[who] == 1 {
				sum += weights[who]
			}
		}
		if sum >= r.n {
			out[night] = 1
		}
		for who := range r.n {
			if says[who] == 1 && r.came[night] == 1 && out[night] == 0 {
				weights[who] = 2 * weights[who]
			}
			if says[who] == 1 && r.came[night] == 0 && out[night] == 1 {
				weights[who] = 0
			}
		}
	}
	return out
}

// best is the first one of those who were wrong the fewest times, and how often.
func (r record) best() (int, int) {
	wrong := r.wrongs(len(r.said))
	for times := 0; ; times++ {
		for who, w := range wrong {
			if w == times {
				return who, times
			}
		}
	}
}

func power(base, exponent int) *big.Int {
	return new(big.Int).Exp(big.NewInt(int64(base)), big.NewInt(int64(exponent)), nil)
}

func rational(r api.Ratio) *big.Rat {
	return big.NewRat(int64(r.Num), int64(r.Den))
}

// ratio is a big one as the package returns it, in lowest terms.
func ratio(r *big.Rat) api.Ratio {
	return api.Ratio{Num: int(r.Num().Int64()), Den: int(r.Denom().Int64())}
}

// nightsOf are the nights of a series.
func nightsOf(k, series int) []int {
	out := make([]int, k)
	for i := range out {
		if series&(1<<(k-1-i)) != 0 {
			out[i] = 1
		}
	}
	return out
}

// value is the mean of the goal over all series that begin with some nights, in a whole.
func value(k int, goal []int, nights []int) *big.Rat {
	sum, count := 0, 0
	for series, g := range goal {
		if slices.Equal(nightsOf(k, series)[:len(nights)], nights) {
			sum += g
			count++
		}
	}
	return big.NewRat(int64(sum), int64(60*count))
}

// guess is by the formula of the chapter.
func guess(k int, goal []int, nights []int) *big.Rat {
	v0 := value(k, goal, append(slices.Clone(nights), 0))
	v1 := value(k, goal, append(slices.Clone(nights), 1))
	p := new(big.Rat).Sub(v0, v1)
	p.Add(p, big.NewRat(1, 1)).Mul(p, big.NewRat(1, 2))
	if p.Sign() < 0 {
		return new(big.Rat)
	}
	if p.Cmp(big.NewRat(1, 1)) > 0 {
		return big.NewRat(1, 1)
	}
	return p
}

// loss is what is lost with a series by guessing so.
func loss(k int, goal []int, series int) *big.Rat {
	out := new(big.Rat)
	nights := nightsOf(k, series)
	for i, night := range nights {
		p := guess(k, goal, nights[:i])
		if night == 1 {
			p.Sub(big.NewRat(1, 1), p)
		}
		out.Add(out, p)
	}
	return out
}

// steady reports whether the values of a goal never differ by more than 60 for a single night.
func steady(k int, goal []int) bool {
	for length := range k {
		for prefix := range 1 << length {
			nights := nightsOf(length, prefix)
			apart := value(k, goal, append(slices.Clone(nights), 0))
			apart.Sub(apart, value(k, goal, append(slices.Clone(nights), 1)))
			if apart.Abs(apart).Cmp(big.NewRat(1, 1)) > 0 {
				return false
			}
		}
	}
	return true
}

// canBy tries all guesses that are whole sixteenths, when some sixteenths are lost already; these are fine enough for k nights and numbers of sixtieths that 60 * 2^k / 16 divides.
func canBy(goal []int, lost int) bool {
	if 60*lost > 16*slices.Max(goal) {
		return false
	}
	if len(goal) == 1 {
		return true
	}
	half := len(goal) / 2
	for p := range 17 {
		if canBy(goal[:half], lost+p) && canBy(goal[half:], lost+16-p) {
			return true
		}
	}
	return false
}

// regret is k / 2 less the mean of how often the best one is wrong.
func regret(k int, said [][]int) *big.Rat {
	sum := 0
	for series := range 1 << k {
		r := record{len(said[0]), said, nightsOf(k, series)}
		_, times := r.best()
		sum += times
	}
	out := big.NewRat(int64(k), 2)
	return out.Sub(out, big.NewRat(int64(sum), int64(1)<<k))
}

// likeTheBest is a goal that allows so many sixtieths more than the best one is wrong.
func likeTheBest(k int, said [][]int, more int) []int {
	goal := make([]int, 1<<k)
	for series := range goal {
		_, times := record{len(said[0]), said, nightsOf(k, series)}.best()
		goal[series] = min(60*times+more, 60*k)
	}
	return goal
}
