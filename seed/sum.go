package seed

import (
	"slices"

	"dibber/api"
)

// Sums returns in how many ways a number is a sum of different Fibonacci numbers.
func Sums(n int) (int, api.Errno) {
	if !areNumbers(n) {
		return 0, api.ErrRange
	}
	// Every such sum comes of the parts: each is whole, or is split into the two numbers below it, of which the lower one may
	// be split again, and so on, down to what is free above the part before. A split part leaves its own number free, so that
	// the next one can go down that far. Below all parts F(1) is as good as taken.
	whole, split, before := 1, 0, lowest-1
	for _, part := range slices.Backward(parts(n)) {
		gap := part - before
		whole, split = whole+split, whole*((gap-1)/2)+split*(gap/2)
		before = part
	}
	return whole + split, api.OK
}

// Circle returns the sum of F(i + j) over all parts F(i) of a and F(j) of b.
func Circle(a, b int) (int, api.Errno) {
	if !areNumbers(a, b) {
		return 0, api.ErrRange
	}
	sum := 0
	for _, j := range parts(b) {
		sum = min(sum+shifted(a, j), tooMuch)
	}
	if sum > api.MaxNumber {
		return 0, api.ErrRange
	}
	return sum, api.OK
}

// Shift returns the sum of F(i + by) over all parts F(i) of n.
func Shift(n, by int) (int, api.Errno) {
	if !areNumbers(n) {
		return 0, api.ErrRange
	}
	if by < -api.MaxShift || by > api.MaxShift {
		return 0, api.ErrArg
	}
	// The sum is never below -MaxNumber: no part is shifted further down than to F(-78), which is far above that.
	sum := shifted(n, by)
	if sum > api.MaxNumber {
		return 0, api.ErrRange
	}
	return sum, api.OK
}
