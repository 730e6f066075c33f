package share

import (
	"slices"

	"dibber/api"
)

// Greedy returns what each gardener adds to the cost of those who came before, in an order.
func Greedy(n int, cost, order []int) ([]int, api.Errno) {
	if e := fault(n, cost); e != api.OK {
		return nil, e
	}
	if !isOrder(n, order) {
		return nil, api.ErrArg
	}
	return greedy(cost, order), api.OK
}

// Corners returns the sharings that are Greedy of some order, in lexicographic order.
func Corners(n int, cost []int) ([][]int, api.Errno) {
	if e := fault(n, cost); e != api.OK {
		return nil, e
	}
	var out [][]int
	sharing := make([]int, n)
	var come func(group int)
	come = func(group int) {
		if group == 1<<n-1 {
			out = append(out, slices.Clone(sharing))
		}
		for gardener := range n {
			if !has(group, gardener) {
				sharing[gardener] = cost[group|1<<gardener] - cost[group]
				come(group | 1<<gardener)
			}
		}
	}
	come(0)
	slices.SortFunc(out, slices.Compare[[]int])
	return slices.CompactFunc(out, slices.Equal[[]int]), api.OK
}

// Fair returns the first group that pays more than its cost, or whether all pay the cost of all.
func Fair(n int, cost, sharing []int) (int, bool, api.Errno) {
	if !isCost(n, cost) || !isSharing(n, sharing) {
		return 0, false, api.ErrArg
	}
	if dear := groups(n, paysMore(cost, sharing)); len(dear) > 0 {
		return dear[0], false, api.OK
	}
	all := 1<<n - 1
	return all, total(sharing, all) == cost[all], api.OK
}

func isOrder(n int, order []int) bool {
	seen := 0
	for _, gardener := range order {
		if !isGardener(n, gardener) || has(seen, gardener) {
			return false
		}
		seen |= 1 << gardener
	}
	return len(order) == n
}

func isSharing(n int, sharing []int) bool {
	return len(sharing) == n && allWithin(sharing, api.MaxCost*api.MaxMembers)
}

// greedy needs no more of a cost than a number for each group.
func greedy(cost, order []int) []int {
	out := make([]int, len(order))
	group := 0
	for _, gardener := range order {
		before := cost[group]
		group |= 1 << gardener
		out[gardener] = cost[group] - before
	}
	return out
}
