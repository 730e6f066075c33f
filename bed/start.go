package bed

import (
	"slices"

	"dibber/api"
)

// Row returns the lexicographically least row that can be sown after a start.
func Row(n int, start [][]int) ([]int, api.Errno) {
	g, e := readStart(n, start)
	if e != api.OK {
		return nil, e
	}
	k := len(start)
	if k == n {
		return nil, api.ErrPlan
	}
	var least []int
	g.eachRow(k, func() bool {
		least = g.row(k)
		return false
	})
	return least, api.OK
}

// Rows returns how many rows can be sown after a start.
func Rows(n int, start [][]int) (int, api.Errno) {
	g, e := readStart(n, start)
	if e != api.OK {
		return 0, e
	}
	k := len(start)
	if k == n {
		return 0, api.OK
	}
	ways := 0
	g.eachRow(k, func() bool {
		ways++
		return true
	})
	return ways, api.OK
}

// readStart reads a start of n crops as a bed in which the other rows are unsown.
func readStart(n int, start [][]int) (*ground, api.Errno) {
	if n < 1 || n > api.MaxCrops || len(start) > n {
		return nil, api.ErrArg
	}
	bed := make([][]int, n)
	for r := range bed {
		if r >= len(start) {
			bed[r] = slices.Repeat([]int{unsown}, n)
			continue
		}
		if slices.Contains(start[r], unsown) {
			return nil, api.ErrArg
		}
		bed[r] = start[r]
	}
	return readBed(bed)
}
