package bed

import (
	"math/bits"
	"slices"

	"dibber/api"
)

// unsown stands where no crop is sown yet.
const unsown = -1

// The three coordinates of a sowing. A bed treats them alike: any two of them determine the third.
const (
	ofRow = iota
	ofCol
	ofCrop
)

// sowing is a row, a column, and the crop that is there.
type sowing [3]int

// plan is a bed as an array, so that it can be the key of a map; outside its size it is 0.
type plan [api.MaxCrops][api.MaxCrops]int

// ground is a bed of which some places are sown.
type ground struct {
	size  int
	crops plan
	// met[i][j][a] has the bit b if a sowing with a as its coordinate i has b as its coordinate j.
	met [3][3][api.MaxCrops]uint8
}

// need is what a full bed has exactly once: a sowing whose coordinate i is a and whose coordinate j is b.
type need struct{ i, a, j, b int }

// with returns the sowing that meets a need with the third coordinate.
func (n need) with(third int) sowing {
	var s sowing
	s[n.i], s[n.j], s[3-n.i-n.j] = n.a, n.b, third
	return s
}

// shaped reports whether a list has the numbers of a bed; a crop may be twice in a row or in a column.
func shaped(bed [][]int) bool {
	n := len(bed)
	if n < 1 || n > api.MaxCrops {
		return false
	}
	for _, row := range bed {
		if len(row) != n {
			return false
		}
		for _, crop := range row {
			if crop < unsown || crop >= n {
				return false
			}
		}
	}
	return true
}

func newGround(n int) *ground {
	g := &ground{size: n}
	for r := range n {
		for c := range n {
			g.crops[r][c] = unsown
		}
	}
	return g
}

func readBed(bed [][]int) (*ground, api.Errno) {
	if _, _, e := Check(bed); e != api.ErrPlan {
		return nil, api.ErrArg
	}
	g := newGround(len(bed))
	for r, row := range bed {
		for c, crop := range row {
			if crop != unsown {
				g.sow(sowing{r, c, crop})
			}
		}
	}
	return g, api.OK
}

func readFull(bed [][]int) (*ground, api.Errno) {
	g, e := readBed(bed)
	if e != api.OK {
		return nil, e
	}
	for _, row := range bed {
		if slices.Contains(row, unsown) {
			return nil, api.ErrArg
		}
	}
	return g, api.OK
}

// row returns a row as a list of its own.
func (g *ground) row(r int) []int {
	return slices.Clone(g.crops[r][:g.size])
}

// bed returns the ground as a list of lists.
func (g *ground) bed() [][]int {
	out := make([][]int, g.size)
	for r := range out {
		out[r] = g.row(r)
	}
	return out
}

func (g *ground) sow(s sowing) {
	g.crops[s[ofRow]][s[ofCol]] = s[ofCrop]
	for i := range s {
		for j := range s {
			g.met[i][j][s[i]] |= 1 << s[j]
		}
	}
}

// clear takes back a sowing.
func (g *ground) clear(s sowing) {
	g.crops[s[ofRow]][s[ofCol]] = unsown
	for i := range s {
		for j := range s {
			g.met[i][j][s[i]] &^= 1 << s[j]
		}
	}
}

// isMet reports whether there is a sowing that meets a need.
func (g *ground) isMet(n need) bool {
	return g.met[n.i][n.j][n.a]>>n.b&1 == 1
}

// options returns, as bits, the third coordinates with which a need that is not met can be met.
func (g *ground) options(n need) uint8 {
	k := 3 - n.i - n.j
	all := uint8(1)<<g.size - 1
	return all &^ (g.met[n.i][k][n.a] | g.met[n.j][k][n.b])
}

// tightest returns the need with the fewest options of those that are not met; false if all are.
func (g *ground) tightest() (need, bool) {
	var best need
	fewest := g.size + 1
	for _, pair := range [3][2]int{{ofRow, ofCol}, {ofRow, ofCrop}, {ofCol, ofCrop}} {
		for a := range g.size {
			for b := range g.size {
				n := need{pair[0], a, pair[1], b}
				if g.isMet(n) {
					continue
				}
				if few := bits.OnesCount8(g.options(n)); few < fewest {
					best, fewest = n, few
				}
			}
		}
	}
	return best, fewest <= g.size
}

// finish sows all that is unsown, in some way; if there is none, it returns false and leaves the ground as it was.
// It meets the tightest need first: in the order of the places, a need without options would be seen too late.
func (g *ground) finish() bool {
	n, open := g.tightest()
	if !open {
		return true
	}
	for free := g.options(n); free != 0; free &= free - 1 {
		s := n.with(bits.TrailingZeros8(free))
		g.sow(s)
		if g.finish() {
			return true
		}
		g.clear(s)
	}
	return false
}

// eachRow sows what is unsown of a row in all ways, the lexicographically least one first, and calls visit with
// each, until that returns false. Afterwards the row is as it was.
func (g *ground) eachRow(r int, visit func() bool) {
	var sowFrom func(c int) bool
	sowFrom = func(c int) bool {
		if c == g.size {
			return visit()
		}
		if g.crops[r][c] != unsown {
			return sowFrom(c + 1)
		}
		for free := g.options(need{ofRow, r, ofCol, c}); free != 0; free &= free - 1 {
			s := sowing{r, c, bits.TrailingZeros8(free)}
			g.sow(s)
			more := sowFrom(c + 1)
			g.clear(s)
			if !more {
				return false
			}
		}
		return true
	}
	sowFrom(0)
}

// sortedAbove returns the crops with each column sorted above the row r.
func (g *ground) sortedAbove(r int) plan {
	out := g.crops
	for c := range g.size {
		var column [api.MaxCrops]int
		for i := range r {
			column[i] = g.crops[i][c]
		}
		slices.Sort(column[:r])
		for i := range r {
			out[i][c] = column[i]
		}
	}
	return out
}
