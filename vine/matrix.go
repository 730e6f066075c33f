package vine

import (
	"math/bits"
	"strings"
)

// number is what the entries of a matrix are: they have a sum and a product, and their zero value is nought.
type number[T any] interface {
	plus(T) T
	times(T) T
}

// product multiplies two matrices, which are lists of rows.
func product[T number[T]](a, b [][]T) [][]T {
	out := make([][]T, len(a))
	for i, row := range a {
		out[i] = make([]T, len(b[0]))
		for j := range out[i] {
			for k, x := range row {
				out[i][j] = out[i][j].plus(x.times(b[k][j]))
			}
		}
	}
	return out
}

// matrix returns, in the row p and the column q, how many parts p the part q becomes.
func matrix[T number[T]](r rules, as func(int) T) [][]T {
	out := make([][]T, len(r))
	for p := range r {
		for _, becomes := range r {
			out[p] = append(out[p], as(strings.Count(becomes, letter(p))))
		}
	}
	return out
}

// many is how many letters there are. It stops at countless, so that sums and products of numbers below it are exact, and those above are known to be above.
type many uint64

// countless is more than any int.
const countless many = 1 << 63

func asMany(n int) many { return many(n) }

func (a many) plus(b many) many {
	if a > countless-b {
		return countless
	}
	return a + b
}

func (a many) times(b many) many {
	high, low := bits.Mul64(uint64(a), uint64(b))
	if high > 0 {
		return countless
	}
	return min(many(low), countless)
}

// whole is a whole number. The matrices of six parts that become eight letters keep far from its ends.
type whole int

func asWhole(n int) whole { return whole(n) }

func (a whole) plus(b whole) whole { return a + b }

func (a whole) times(b whole) whole { return a * b }

// path reports whether one part comes of another.
type path bool

func asPath(n int) path { return n > 0 }

func (a path) plus(b path) path { return a || b }

func (a path) times(b path) path { return a && b }
