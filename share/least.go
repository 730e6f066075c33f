package share

import "dibber/api"

// Least returns the least cost of a group, and the smallest and the largest group with it.
func Least(n int, cost []int) (int, int, int, api.Errno) {
	if e := fault(n, cost); e != api.OK {
		return 0, 0, 0, e
	}
	// What is in all groups with the least cost, and what is in any of them, are such groups, too: the first and the last one.
	price := cheapest(cost, groups(n))
	those := groups(n, costs(cost, price))
	return price, those[0], those[len(those)-1], api.OK
}

// Proof returns the lexicographically least fair sharing in which the sum of what is paid below 0 is the cost of Least.
func Proof(n int, cost []int) ([]int, api.Errno) {
	_, small, _, e := Least(n, cost)
	if e != api.OK {
		return nil, e
	}
	// The sum is as great as that exactly if the least group pays its cost, nobody in it more than 0, and nobody else less.
	// The sharings that do are the fair ones of another submodular cost: in the least group, a group costs no more than one
	// inside it, as what is left out pays at most 0; with the least group, no more than one around it, as what comes in
	// pays at least 0.
	bound := make([]int, len(cost))
	for group := range bound {
		inner := cheapest(cost, groups(n, inside(group&small)))
		outer := cheapest(cost, groups(n, around(group|small)))
		bound[group] = inner + outer - cost[small]
	}
	return greedy(bound, lastFirst(n)), api.OK
}

// Proves reports whether a sharing is fair, and what those pay who pay less than 0.
func Proves(n int, cost, sharing []int) (int, bool, api.Errno) {
	if e := fault(n, cost); e != api.OK {
		return 0, false, e
	}
	_, fair, e := Fair(n, cost, sharing)
	if e != api.OK || !fair {
		return 0, false, e
	}
	sum := 0
	for _, paid := range sharing {
		sum += min(paid, 0)
	}
	return sum, true, api.OK
}

// lastFirst is the order whose Greedy is the lexicographically least fair sharing: who comes later pays less.
func lastFirst(n int) []int {
	out := make([]int, n)
	for i := range out {
		out[i] = n - 1 - i
	}
	return out
}
