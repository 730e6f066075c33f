package seed

import "dibber/api"

const (
	lowest  = 2  // F(2) is the least part
	highest = 88 // F(88) is the greatest one that is not above MaxNumber

	// tooMuch stands for every number above MaxNumber, so that no sum grows beyond what an int holds.
	tooMuch = api.MaxNumber + 1
)

func areNumbers(list ...int) bool {
	for _, n := range list {
		if n < 0 || n > api.MaxNumber {
			return false
		}
	}
	return true
}

// fibonacci returns F(i), or tooMuch.
func fibonacci(i int) int {
	this, next := 0, 1
	for range min(i, highest+1) {
		this, next = next, min(this+next, tooMuch)
	}
	for range -i {
		this, next = next-this, this
	}
	return this
}

// parts returns the i of all parts F(i) of a number, the greatest first.
func parts(n int) []int {
	var out []int
	part, below := fibonacci(highest), fibonacci(highest-1)
	for i := highest; n > 0; i-- {
		if part <= n {
			out = append(out, i)
			n -= part
		}
		part, below = below, part-below
	}
	return out
}

// leastPart returns the i of the least part F(i) of a number above 0.
func leastPart(n int) int {
	all := parts(n)
	return all[len(all)-1]
}

// shifted returns the sum of F(i + by) over all parts F(i) of n, or tooMuch. Where some of these are below 0, the sum cannot
// be too much: by is below 0 then, and those above 0 come to no more than n.
func shifted(n, by int) int {
	sum := 0
	for _, i := range parts(n) {
		sum = min(sum+fibonacci(i+by), tooMuch)
	}
	return sum
}
