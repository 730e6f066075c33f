package fence

import (
	"slices"
	"sync"

	"dibber/api"
)

// polynomial has the coefficient of x^i y^j at [j][i]. There are less than MaxPosts bridges in a garden, whatever has
// been closed in it.
type polynomial [api.MaxFences + 1][api.MaxPosts]int

// fewFences are so few that the polynomial is found in less time by one goroutine than by several.
const fewFences = 10

func (g garden) polynomial() polynomial {
	if g == (garden{}) {
		return polynomial{{1}}
	}
	last := g.count - 1
	switch {
	case g.isLoop(last):
		return g.takenAway(last).polynomial().timesY()
	case g.isBridge(last):
		return g.closed(last).polynomial().timesX()
	case g.count <= fewFences:
		return g.takenAway(last).polynomial().plus(g.closed(last).polynomial())
	}
	return sum(g.takenAway(last), g.closed(last))
}

// sum returns the sum of the polynomials of two gardens, which are found at the same time.
func sum(a, b garden) polynomial {
	parts := make(chan polynomial, 2)
	var both sync.WaitGroup
	for _, g := range [2]garden{a, b} {
		both.Add(1)
		go func() {
			defer both.Done()
			parts <- g.polynomial()
		}()
	}
	both.Wait()
	close(parts)
	var out polynomial
	for part := range parts {
		out = out.plus(part)
	}
	return out
}

func (p polynomial) plus(q polynomial) polynomial {
	for j, row := range q {
		for i, coefficient := range row {
			p[j][i] += coefficient
		}
	}
	return p
}

func (p polynomial) timesX() polynomial {
	var out polynomial
	for j := range p {
		copy(out[j][1:], p[j][:])
	}
	return out
}

func (p polynomial) timesY() polynomial {
	var out polynomial
	copy(out[1:], p[:])
	return out
}

// value stays within 20^14 at each step, for x and y from -20 to 20, as no coefficient is below 0 and those of 14
// fences come to no more than 20^14 at x = y = 20.
func (p polynomial) value(x, y int) int {
	out := 0
	for _, row := range slices.Backward(p[:]) {
		out = out*y + valueOf(row, x)
	}
	return out
}

func valueOf(row [api.MaxPosts]int, x int) int {
	out := 0
	for _, coefficient := range slices.Backward(row[:]) {
		out = out*x + coefficient
	}
	return out
}

// lists returns the coefficients of x^0, x^1, .. in a list for each power of y, without zeros and empty lists at the end.
func (p polynomial) lists() [][]int {
	var out [][]int
	for _, row := range p {
		length := len(row)
		for length > 0 && row[length-1] == 0 {
			length--
		}
		out = append(out, slices.Clone(row[:length]))
	}
	for len(out) > 0 && len(out[len(out)-1]) == 0 {
		out = out[:len(out)-1]
	}
	return out
}
