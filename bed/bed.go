// Package bed is layer 1, Latin squares: beds in which no crop comes twice in a row or in a column.
package bed

import (
	"math/bits"

	"dibber/api"
)

// Check returns the first place whose crop is also at an earlier place of its row or column.
func Check(bed [][]int) (int, int, api.Errno) {
	if !shaped(bed) {
		return 0, 0, api.ErrArg
	}
	g := newGround(len(bed))
	for r, row := range bed {
		for c, crop := range row {
			if crop == unsown {
				continue
			}
			if g.options(need{ofRow, r, ofCol, c})>>crop&1 == 0 {
				return r, c, api.OK
			}
			g.sow(sowing{r, c, crop})
		}
	}
	return 0, 0, api.ErrPlan
}

// Fill returns the lexicographically least full bed that has all crops of a bed.
func Fill(bed [][]int) ([][]int, api.Errno) {
	g, e := readBed(bed)
	if e != api.OK {
		return nil, e
	}
	best := *g
	if !best.finish() {
		return nil, api.ErrPlan
	}
	for r := range g.size {
		for c := range g.size {
			if g.crops[r][c] == unsown {
				g.sowLeast(r, c, &best)
			}
		}
	}
	return g.bed(), api.OK
}

// sowLeast sows the least crop at a place with which the ground can still be finished; best is the least way to
// finish it that is known, before and after.
func (g *ground) sowLeast(r, c int, best *ground) {
	known := best.crops[r][c]
	for free := g.options(need{ofRow, r, ofCol, c}); free != 0; free &= free - 1 {
		s := sowing{r, c, bits.TrailingZeros8(free)}
		g.sow(s)
		if s[ofCrop] == known {
			return
		}
		trial := *g
		if trial.finish() {
			*best = trial
			return
		}
		g.clear(s)
	}
}

// Count returns how many full beds have all crops of a bed.
func Count(bed [][]int) (int, api.Errno) {
	g, e := readBed(bed)
	if e != api.OK {
		return 0, e
	}
	if g.size > api.MaxCounted {
		return 0, api.ErrArg
	}
	return g.countFrom(0, map[plan]int{}), api.OK
}

// countFrom returns in how many ways the rows from r on can be sown. Beds that differ only in the order in which
// the columns were sown above r have as many ways, so they are counted once.
func (g *ground) countFrom(r int, known map[plan]int) int {
	if r == g.size {
		return 1
	}
	key := g.sortedAbove(r)
	if ways, ok := known[key]; ok {
		return ways
	}
	ways := 0
	g.eachRow(r, func() bool {
		more := g.countFrom(r+1, known)
		ways += more
		return true
	})
	known[key] = ways
	return ways
}
