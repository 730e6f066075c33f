package weed

import (
	"math/bits"

	"dibber/api"
)

// A row is a walk from pair to pair of neighbouring plots, l and c being the pair 2 l + c: the pair p and the plot r
// to its right are the three plots 2 p + r, and the next pair is the one of their last two.

// pairs is a set of pairs.
type pairs uint8

const allPairs pairs = 15

func (s pairs) has(pair int) bool { return s>>pair&1 == 1 }

// ahead returns the pairs to which one of s goes when the plot came comes of it.
func (u rule) ahead(s pairs, came int) pairs {
	var out pairs
	for three := range 8 {
		if s.has(three>>1) && u.next(three) == came {
			out |= 1 << (three & 3)
		}
	}
	return out
}

// behind returns the pairs that go to one of s when the plot came comes of them.
func (u rule) behind(s pairs, came int) pairs {
	var out pairs
	for three := range 8 {
		if s.has(three&3) && u.next(three) == came {
			out |= 1 << (three >> 1)
		}
	}
	return out
}

// walks returns how many walks of which a row comes end in each pair, if from says how many begin there.
func (u rule) walks(row string, from [4]int) [4]int {
	at := from
	for i := range len(row) {
		var to [4]int
		for three := range 8 {
			if u.next(three) == bit(row[i]) {
				to[three&3] += at[three>>1]
			}
		}
		at = to
	}
	return at
}

// back returns the lexicographically least row of which a row comes, if there is one.
func (u rule) back(row string) (string, bool) {
	can := make([]pairs, len(row)+1) // from which pairs the rest of the row can come
	can[len(row)] = allPairs
	for i := len(row) - 1; i >= 0; i-- {
		can[i] = u.behind(can[i+1], bit(row[i]))
	}
	if can[0] == 0 {
		return "", false
	}
	at := bits.TrailingZeros8(uint8(can[0]))
	out := []byte{plot(at >> 1), plot(at & 1)}
	for i := range len(row) {
		three := 2 * at
		if u.next(three) != bit(row[i]) || !can[i+1].has(three&3) {
			three++
		}
		at = three & 3
		out = append(out, plot(three&1))
	}
	return string(out), true
}

// Back returns the lexicographically least row that becomes this one.
func Back(rule int, row string) (string, api.Errno) {
	u, e := read(rule, row)
	if e != api.ErrArg && len(row) > api.MaxPlots-2 {
		return "", api.ErrLimit
	}
	if e != api.OK {
		return "", e
	}
	out, ok := u.back(row)
	if !ok {
		return "", api.ErrPlan
	}
	return out, api.OK
}

// readShort is read for a row whose ways are counted.
func readShort(n int, row string) (rule, api.Errno) {
	u, e := read(n, row)
	if e == api.OK && len(row) > api.MaxWays {
		return 0, api.ErrArg
	}
	return u, e
}

// Ways returns how many rows become this one.
func Ways(rule int, row string) (int, api.Errno) {
	u, e := readShort(rule, row)
	if e != api.OK {
		return 0, e
	}
	ways := 0
	for _, n := range u.walks(row, [4]int{1, 1, 1, 1}) {
		ways += n
	}
	return ways, api.OK
}

// Rings returns how many rings become this ring: these are the walks that end where they begin.
func Rings(rule int, row string) (int, api.Errno) {
	u, e := readShort(rule, row)
	if e != api.OK {
		return 0, e
	}
	rings := 0
	for pair := range 4 {
		var from [4]int
		from[pair] = 1
		rings += u.walks(row, from)[pair]
	}
	return rings, api.OK
}
