package share

// groups returns, in ascending order, the groups of n gardeners that pass all tests.
func groups(n int, tests ...func(group int) bool) []int {
	var out []int
	for group := range 1 << n {
		if passes(group, tests) {
			out = append(out, group)
		}
	}
	return out
}

func passes(group int, tests []func(group int) bool) bool {
	for _, test := range tests {
		if !test(group) {
			return false
		}
	}
	return true
}

func above(other int) func(int) bool {
	return func(group int) bool { return group > other }
}

// inside lets the groups pass of which all are in the other one.
func inside(other int) func(int) bool {
	return func(group int) bool { return group&^other == 0 }
}

// around lets the groups pass in which all of the other one are.
func around(other int) func(int) bool {
	return func(group int) bool { return other&^group == 0 }
}

// parts lets the groups pass in which just one of two gardeners is.
func parts(a, b int) func(int) bool {
	return func(group int) bool { return has(group, a) != has(group, b) }
}

// breaks lets the groups pass that cost too little, together with the other one, for a submodular cost.
func breaks(cost []int, other int) func(int) bool {
	return func(group int) bool {
		return cost[other]+cost[group] < cost[other|group]+cost[other&group]
	}
}

func costs(cost []int, price int) func(int) bool {
	return func(group int) bool { return cost[group] == price }
}

func paysMore(cost, sharing []int) func(int) bool {
	return func(group int) bool { return total(sharing, group) > cost[group] }
}

func has(group, gardener int) bool {
	return group>>gardener&1 == 1
}

// total is what a group pays.
func total(sharing []int, group int) int {
	sum := 0
	for gardener, paid := range sharing {
		if has(group, gardener) {
			sum += paid
		}
	}
	return sum
}

// cheapest is the least cost of some groups, of which there is at least one.
func cheapest(cost, among []int) int {
	least := cost[among[0]]
	for _, group := range among {
		least = min(least, cost[group])
	}
	return least
}
