package bed_test

import (
	"math/rand"
	"slices"

	"dibber/bed"
)

var three = [][]int{{0, 1, 2}, {1, 2, 0}, {2, 0, 1}}

var klein = [][]int{{0, 1, 2, 3}, {1, 0, 3, 2}, {2, 3, 0, 1}, {3, 2, 1, 0}}

func empty(n int) [][]int {
	var out [][]int
	for range n {
		out = append(out, slices.Repeat([]int{-1}, n))
	}
	return out
}

func clone(list [][]int) [][]int {
	var out [][]int
	for _, row := range list {
		out = append(out, slices.Clone(row))
	}
	return out
}

func cyclic(n, step int) [][]int {
	l, _ := bed.Cyclic(n, step)
	return l
}

func factorial(n int) int {
	out := 1
	for i := range n {
		out *= i + 1
	}
	return out
}

// orders are the orders of 0 to n - 1, in lexicographic order.
func orders(n int) [][]int {
	var out [][]int
	var choose func(begun []int)
	choose = func(begun []int) {
		if len(begun) == n {
			out = append(out, begun)
			return
		}
		for i := range n {
			if !slices.Contains(begun, i) {
				choose(append(slices.Clone(begun), i))
			}
		}
	}
	choose(nil)
	return out
}

// someFull is a full bed, sown row by row at random and begun anew where a row cannot be sown.
func someFull(rng *rand.Rand, n int) [][]int {
	var out [][]int
	for len(out) < n {
		row := make([]int, 0, n)
		for c := range n {
			var free []int
			for crop := range n {
				above := slices.ContainsFunc(out, func(l []int) bool { return l[c] == crop })
				if !above && !slices.Contains(row, crop) {
					free = append(free, crop)
				}
			}
			if len(free) == 0 {
				break
			}
			row = append(row, free[rng.Intn(len(free))])
		}
		if len(row) == n {
			out = append(out, row)
		}
	}
	return out
}

// scrambled has the rows, the columns and the crops of a full bed in other orders.
func scrambled(rng *rand.Rand, b [][]int) [][]int {
	n := len(b)
	rows, columns, crops := rng.Perm(n), rng.Perm(n), rng.Perm(n)
	out := empty(n)
	for r := range n {
		for c := range n {
			out[rows[r]][columns[c]] = crops[b[r][c]]
		}
	}
	return out
}
