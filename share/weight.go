package share

import (
	"cmp"
	"slices"

	"dibber/api"
)

// Fills returns the sum of the costs of all who weigh at least 1, at least 2, and so on.
func Fills(n int, cost []int, weights []int) (int, api.Errno) {
	if !isCost(n, cost) || !areWeights(n, weights) {
		return 0, api.ErrArg
	}
	sum := 0
	for level := 1; level <= slices.Max(weights); level++ {
		sum += cost[heavy(weights, level)]
	}
	return sum, api.OK
}

// Dearest returns the lexicographically least of the fair sharings with the greatest weighted sum, and that sum.
func Dearest(n int, cost, weights []int) ([]int, int, api.Errno) {
	if e := fault(n, cost); e != api.OK {
		return nil, 0, e
	}
	if !areWeights(n, weights) {
		return nil, 0, api.ErrArg
	}
	order := lastFirst(n)
	slices.SortStableFunc(order, func(a, b int) int { return cmp.Compare(weights[b], weights[a]) })
	sharing := greedy(cost, order)
	sum := 0
	for gardener, paid := range sharing {
		sum += weights[gardener] * paid
	}
	return sharing, sum, api.OK
}

func areWeights(n int, weights []int) bool {
	for _, weight := range weights {
		if weight < 0 || weight > api.MaxWeight {
			return false
		}
	}
	return len(weights) == n
}

// heavy is the group of all who weigh at least so much.
func heavy(weights []int, level int) int {
	group := 0
	for gardener, weight := range weights {
		if weight >= level {
			group |= 1 << gardener
		}
	}
	return group
}
