package seed

import "dibber/api"

// Pair returns the lost pair of heaps that differ by k.
func Pair(k int) (int, int, api.Errno) {
	if k < 0 || k > api.MaxPair {
		return 0, 0, api.ErrRange
	}
	a := smaller(k)
	return a, a + k, api.OK
}

// Lost reports whether whoever has to move loses.
func Lost(a, b int) (bool, api.Errno) {
	if !areNumbers(a, b) {
		return false, api.ErrRange
	}
	return partner(a) == b, api.OK
}

// Move returns what to take from both heaps so that a lost pair is left.
func Move(a, b int) (int, int, api.Errno) {
	if !areNumbers(a, b) {
		return 0, 0, api.ErrRange
	}
	if partner(a) == b {
		return 0, 0, api.ErrPlan
	}
	if partner(a) < b {
		return 0, b - partner(a), api.OK
	}
	// What is above 0 of these two can be taken. They are never the same, as the first heap that is left has one partner.
	one := a - partner(b)
	both := min(a, b) - smaller(max(a, b)-min(a, b))
	if both > 0 && (one < 0 || both < one) {
		return both, both, api.OK
	}
	return one, 0, api.OK
}

// Take returns the least number of seeds to take of one heap with which one wins.
func Take(n, most int) (int, api.Errno) {
	if !areNumbers(n) {
		return 0, api.ErrRange
	}
	if most < 1 {
		return 0, api.ErrArg
	}
	if n == 0 {
		return 0, api.ErrPlan
	}
	part := fibonacci(leastPart(n))
	if part > most {
		return 0, api.ErrPlan
	}
	return part, api.OK
}

// smaller returns the smaller heap of the lost pair that differs by k, or a number above MaxNumber. From 1 on the smaller
// heaps are the numbers whose words end with an even number of 0. The words of the numbers just below these are all that end
// with 0, and so are 0, 1, 2, .. shifted by 1.
func smaller(k int) int {
	if k == 0 {
		return 0
	}
	return shifted(k-1, 1) + 1
}

// partner returns the heap that makes a lost pair with another one, or tooMuch: by P9.10 its word has a 0 more or less.
func partner(n int) int {
	if n == 0 {
		return 0
	}
	if zeros := leastPart(n) - lowest; zeros%2 == 0 {
		return shifted(n, 1)
	}
	return shifted(n, -1)
}
