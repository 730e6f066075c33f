package share_test

import (
	"math"
	"math/rand"
	"slices"

	"dibber/api"
	"dibber/share"
)

const most = api.MaxCost

// extremes are numbers at the ends of int.
func extremes() []int {
	return []int{math.MinInt, math.MinInt + 1, math.MaxInt - 1, math.MaxInt}
}

func wrongCounts() []int {
	return append(extremes(), -2, -1, 0, api.MaxMembers+1, 63, 64, 65)
}

// members lists who is in a group.
func members(group int) []int {
	var out []int
	for gardener := 0; group > 0; gardener++ {
		if group%2 == 1 {
			out = append(out, gardener)
		}
		group /= 2
	}
	return out
}

func group(members ...int) int {
	sum := 0
	for i, m := range members {
		if !slices.Contains(members[:i], m) {
			sum += 1 << m
		}
	}
	return sum
}

func either(a, b int) int {
	return group(append(members(a), members(b)...)...)
}

func both(a, b int) int {
	return group(slices.DeleteFunc(members(a), func(m int) bool { return !slices.Contains(members(b), m) })...)
}

// broken is what Check should return of a valid cost.
func broken(cost []int) (int, int, api.Errno) {
	for a := range cost {
		for b := a + 1; b < len(cost); b++ {
			if cost[a]+cost[b] < cost[either(a, b)]+cost[both(a, b)] {
				return a, b, api.OK
			}
		}
	}
	return 0, 0, api.ErrPlan
}

func submodular(cost []int) bool {
	_, _, e := broken(cost)
	return e == api.ErrPlan
}

// lists calls with every list of so many numbers from low to high.
func lists(size, low, high int, call func([]int)) {
	list := make([]int, size)
	var next func(at int)
	next = func(at int) {
		if at == size {
			call(slices.Clone(list))
			return
		}
		for list[at] = low; list[at] <= high; list[at]++ {
			next(at + 1)
		}
	}
	next(0)
}

// smallCosts calls with every cost of n gardeners whose numbers are from low to high.
func smallCosts(n, low, high int, call func([]int)) {
	lists(1<<n-1, low, high, func(list []int) { call(append([]int{0}, list...)) })
}

// few are submodular costs of 1 to 3 gardeners with small numbers.
func few() [][]int {
	var out [][]int
	keep := func(cost []int) {
		if submodular(cost) {
			out = append(out, cost)
		}
	}
	smallCosts(1, -3, 3, keep)
	smallCosts(2, -3, 3, keep)
	smallCosts(3, -1, 1, keep)
	r := rand.New(rand.NewSource(81))
	for range 60 {
		keep(randomCost(r, 3, 3))
	}
	return out
}

// modular costs are what each gardener pays, summed.
func modular(weights []int) []int {
	out := make([]int, 1<<len(weights))
	for g := range out {
		for _, m := range members(g) {
			out[g] += weights[m]
		}
	}
	return out
}

// bent costs are min(what a group weighs, top) - submodular, as what comes last adds least.
func bent(weights []int, top int) []int {
	out := modular(weights)
	for g := range out {
		out[g] = min(out[g], top)
	}
	return out
}

func randomList(r *rand.Rand, n, low, high int) []int {
	out := make([]int, n)
	for i := range out {
		out[i] = low + r.Intn(high-low+1)
	}
	return out
}

func randomHedges(r *rand.Rand, n, count, high int) [][]int {
	var out [][]int
	for range count {
		if n > 1 {
			two := r.Perm(n)
			out = append(out, []int{two[0], two[1], r.Intn(high + 1)})
		}
	}
	return out
}

// cut is what Cut should return.
func cut(n int, hedges [][]int) []int {
	out := make([]int, 1<<n)
	for g := range out {
		for _, h := range hedges {
			if slices.Contains(members(g), h[0]) != slices.Contains(members(g), h[1]) {
				out[g] += h[2]
			}
		}
	}
	return out
}

// randomCost is a submodular cost of several kinds together, with numbers that grow with size.
func randomCost(r *rand.Rand, n, size int) []int {
	out := modular(randomList(r, n, -2*size, size))
	add := func(other []int) {
		for g := range out {
			out[g] += other[g]
		}
	}
	for range r.Intn(4) {
		add(bent(randomList(r, n, 0, size), r.Intn(2*size+1)))
	}
	if r.Intn(2) == 0 {
		add(cut(n, randomHedges(r, n, r.Intn(5), size)))
	}
	return out
}

func orders(n int) [][]int {
	var out [][]int
	lists(n, 0, n-1, func(list []int) {
		if len(members(group(list...))) == n {
			out = append(out, list)
		}
	})
	return out
}

func pays(sharing []int, g int) int {
	sum := 0
	for _, m := range members(g) {
		sum += sharing[m]
	}
	return sum
}

func below(sharing []int) int {
	sum := 0
	for _, paid := range sharing {
		if paid < 0 {
			sum += paid
		}
	}
	return sum
}

func weighted(sharing, weights []int) int {
	sum := 0
	for i, paid := range sharing {
		sum += paid * weights[i]
	}
	return sum
}

func fair(cost, sharing []int) bool {
	for g := range cost {
		if pays(sharing, g) > cost[g] {
			return false
		}
	}
	return pays(sharing, len(cost)-1) == cost[len(cost)-1]
}

// fairOnes are all fair sharings in lexicographic order: as nobody pays more than the greatest number of the cost, nobody
// pays less than the last number less so much for each of the others.
func fairOnes(n int, cost []int) [][]int {
	high := slices.Max(cost)
	low := cost[len(cost)-1] - n*high
	var out [][]int
	lists(n-1, low, high, func(list []int) {
		last := cost[len(cost)-1]
		for _, paid := range list {
			last -= paid
		}
		if sharing := append(list, last); fair(cost, sharing) {
			out = append(out, sharing)
		}
	})
	return out
}

func copies(list [][]int) [][]int {
	out := make([][]int, len(list))
	for i := range list {
		out[i] = slices.Clone(list[i])
	}
	return out
}

// wrongCosts are of n gardeners, and not valid.
func wrongCosts(n int) [][]int {
	out := [][]int{nil, {}, {0}, make([]int, 1<<n-1), make([]int, 1<<n+1), make([]int, 1<<n*2), make([]int, 1000)}
	for g := range 1 << n {
		for _, number := range append(extremes(), -most-1, most+1) {
			cost := make([]int, 1<<n)
			cost[g] = number
			out = append(out, cost)
		}
	}
	for _, number := range []int{-1, 1, most, -most} {
		cost := make([]int, 1<<n)
		cost[0] = number
		out = append(out, cost)
	}
	return out
}

// bulging costs are not submodular: two together cost more than both.
func bulging(n int) []int {
	out := make([]int, 1<<n)
	for g := range out {
		if len(members(g)) > 1 {
			out[g] = 1
		}
	}
	return out
}

// calls are all functions that take a cost, by name, with other arguments that are valid.
func calls(n int, cost []int) map[string]api.Errno {
	zeros := make([]int, max(0, min(n, 100)))
	order := slices.Clone(zeros)
	for i := range order {
		order[i] = i
	}
	out := map[string]api.Errno{}
	_, _, out["Check"] = share.Check(n, cost)
	_, out["Greedy"] = share.Greedy(n, cost, order)
	_, _, out["Fair"] = share.Fair(n, cost, zeros)
	_, _, _, out["Least"] = share.Least(n, cost)
	_, out["Proof"] = share.Proof(n, cost)
	_, _, out["Proves"] = share.Proves(n, cost, zeros)
	_, out["Fills"] = share.Fills(n, cost, zeros)
	_, out["Corners"] = share.Corners(n, cost)
	_, _, out["Dearest"] = share.Dearest(n, cost, zeros)
	_, out["Sum"] = share.Sum(n, cost, make([]int, 1<<max(0, min(n, 10))))
	return out
}
