package bed

import (
	"math/bits"
	"slices"

	"dibber/api"
)

// Transversal returns the lexicographically least transversal of a full bed.
func Transversal(bed [][]int) ([]int, api.Errno) {
	g, e := readFull(bed)
	if e != api.OK {
		return nil, e
	}
	var least []int
	g.eachTransversal(func(columns []int) bool {
		least = slices.Clone(columns)
		return false
	})
	if least == nil {
		return nil, api.ErrPlan
	}
	return least, api.OK
}

// Transversals returns how many transversals a full bed has.
func Transversals(bed [][]int) (int, api.Errno) {
	g, e := readFull(bed)
	if e != api.OK {
		return 0, e
	}
	ways := 0
	g.eachTransversal(func([]int) bool {
		ways++
		return true
	})
	return ways, api.OK
}

// eachTransversal calls visit with each transversal, the lexicographically least one first, until that returns
// false; visit must not keep the list.
func (g *ground) eachTransversal(visit func(columns []int) bool) {
	columns := make([]int, g.size)
	var choose func(r int, columnsUsed, cropsUsed uint8) bool
	choose = func(r int, columnsUsed, cropsUsed uint8) bool {
		if r == g.size {
			return visit(columns)
		}
		for c := range g.size {
			column, crop := uint8(1)<<c, uint8(1)<<g.crops[r][c]
			if columnsUsed&column != 0 || cropsUsed&crop != 0 {
				continue
			}
			columns[r] = c
			if !choose(r+1, columnsUsed|column, cropsUsed|crop) {
				return false
			}
		}
		return true
	}
	choose(0, 0, 0)
}

// Mates reports whether two full beds are mates.
func Mates(a, b [][]int) (bool, api.Errno) {
	g, e := readFull(a)
	if e != api.OK {
		return false, e
	}
	h, e := readFull(b)
	if e != api.OK {
		return false, e
	}
	if g.size != h.size {
		return false, api.ErrArg
	}
	var met [api.MaxCrops][api.MaxCrops]bool
	for r := range g.size {
		for c := range g.size {
			pair := &met[g.crops[r][c]][h.crops[r][c]]
			if *pair {
				return false, api.OK
			}
			*pair = true
		}
	}
	return true, api.OK
}

// Mate returns the lexicographically least mate of a full bed.
func Mate(bed [][]int) ([][]int, api.Errno) {
	g, e := readFull(bed)
	if e != api.OK {
		return nil, e
	}
	if g.size > api.MaxMated {
		return nil, api.ErrArg
	}
	mate := newGround(g.size)
	var met [api.MaxCrops]uint8
	if !mate.sowMate(g, 0, &met) {
		return nil, api.ErrPlan
	}
	return mate.bed(), api.OK
}

// sowMate sows the places from place on, row by row, so that the ground becomes a mate of own; met has, as bits,
// the crops that each crop of own has met.
func (g *ground) sowMate(own *ground, place int, met *[api.MaxCrops]uint8) bool {
	if place == g.size*g.size {
		return true
	}
	r, c := place/g.size, place%g.size
	seen := &met[own.crops[r][c]]
	free := g.options(need{ofRow, r, ofCol, c}) &^ *seen
	if r == 0 {
		// The crops of a mate may be renamed, so there is one that begins with 0, 1, 2 .. if there is any.
		free &= 1 << c
	}
	for ; free != 0; free &= free - 1 {
		s := sowing{r, c, bits.TrailingZeros8(free)}
		g.sow(s)
		*seen |= 1 << s[ofCrop]
		if g.sowMate(own, place+1, met) {
			return true
		}
		*seen &^= 1 << s[ofCrop]
		g.clear(s)
	}
	return false
}
