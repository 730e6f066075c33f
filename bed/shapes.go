package bed

import (
	"dibber/api"
)

// Cyclic returns the bed in which each row is the one above it, moved by step crops.
func Cyclic(n, step int) ([][]int, api.Errno) {
	if n < 1 || n > api.MaxCrops || step < 1 || step > n || divisor(n, step) > 1 {
		return nil, api.ErrArg
	}
	out := make([][]int, n)
	for r := range out {
		out[r] = make([]int, n)
		for c := range out[r] {
			out[r][c] = (r*step + c) % n
		}
	}
	return out, api.OK
}

// divisor returns the greatest common divisor of two numbers above 0.
func divisor(a, b int) int {
	for b != 0 {
		a, b = b, a%b
	}
	return a
}

// Squares returns how many pairs of rows and pairs of columns have only two crops at their four places.
func Squares(bed [][]int) (int, api.Errno) {
	g, e := readFull(bed)
	if e != api.OK {
		return 0, e
	}
	found := 0
	for below := range g.size {
		for above := range below {
			found += squaresOf(g.crops[above], g.crops[below], g.size)
		}
	}
	return found, api.OK
}

func squaresOf(above, below [api.MaxCrops]int, n int) int {
	found := 0
	for right := range n {
		for left := range right {
			if above[left] == below[right] && above[right] == below[left] {
				found++
			}
		}
	}
	return found
}

// Turned returns a full bed with rows and columns exchanged, and with the crops as rows, the rows as columns and
// the columns as crops.
func Turned(bed [][]int) ([][]int, [][]int, api.Errno) {
	g, e := readFull(bed)
	if e != api.OK {
		return nil, nil, e
	}
	mirrored, rolled := newGround(g.size), newGround(g.size)
	for r := range g.size {
		for c := range g.size {
			crop := g.crops[r][c]
			mirrored.crops[c][r] = crop
			rolled.crops[crop][r] = c
		}
	}
	return mirrored.bed(), rolled.bed(), api.OK
}
