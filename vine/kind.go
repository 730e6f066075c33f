package vine

import "dibber/api"

// dies returns the first year in which the shoot is empty, and whether there is one. A shoot dies within as many years as there are parts, or never: a longer line of parts meets one of them twice.
func (r rules) dies(shoot string) (int, bool) {
	for year, lengths := range r.lengths(len(r)) {
		if long(lengths, shoot) == 0 {
			return year, true
		}
	}
	return 0, false
}

// Dies returns after how many years the shoot is empty.
func Dies(vine []string, shoot string) (int, api.Errno) {
	r, e := read(vine, shoot)
	if e != api.OK {
		return 0, e
	}
	year, ok := r.dies(shoot)
	if !ok {
		return 0, api.ErrPlan
	}
	return year, api.OK
}

// descent returns, in the row p and the column q, whether the part p comes of the part q after a year or more.
func (r rules) descent() [][]path {
	out, stay := matrix(r, asPath), matrix(r, asPath)
	for p := range stay {
		stay[p][p] = true
	}
	for range r {
		out = product(out, stay)
	}
	return out
}

// family is the rules of a vine with its descent.
type family struct {
	rules
	comes [][]path
}

// doubles reports whether two letters of what a part becomes lead to this part again.
func (f family) doubles(p int) bool {
	n := 0
	for i := range len(f.rules[p]) {
		if f.comes[p][part(f.rules[p][i])] {
			n++
		}
	}
	return n >= 2
}

// explodes reports whether a part doubles, or one that comes of it.
func (f family) explodes(p int) bool {
	for q := range f.rules {
		if (q == p || bool(f.comes[q][p])) && f.doubles(q) {
			return true
		}
	}
	return false
}

// circles returns how many circles of parts that lead to themselves a line that begins with a part can go through.
func (f family) circles(p int) int {
	most := 0
	for q := range f.rules {
		if f.comes[q][p] && !f.comes[p][q] {
			most = max(most, f.circles(q))
		}
	}
	if f.comes[p][p] {
		most++
	}
	return most
}

// Kind returns how the length of the shoot grows: not at all (0, 1), like a power (2), or exponentially (3).
func Kind(vine []string, shoot string) (int, int, api.Errno) {
	r, e := read(vine, shoot)
	if e != api.OK {
		return 0, 0, e
	}
	f := family{r, r.descent()}
	most := 0
	for i := range len(shoot) {
		p := part(shoot[i])
		if f.explodes(p) {
			return 3, 0, api.OK
		}
		most = max(most, f.circles(p))
	}
	if most < 2 {
		return most, 0, api.OK
	}
	// Each circle adds up what the one before it sends out year by year.
	return 2, most - 1, api.OK
}

// readTwo reads two vines, the second one after the first one's shoot.
func readTwo(vineA []string, shootA string, vineB []string, shootB string) (rules, rules, api.Errno) {
	a, e := read(vineA, shootA)
	if e != api.OK {
		return nil, nil, e
	}
	b, e := read(vineB, shootB)
	if e != api.OK {
		return nil, nil, e
	}
	return a, b, api.OK
}

// Same returns the first year in which two vines have different lengths.
func Same(vineA []string, shootA string, vineB []string, shootB string) (int, api.Errno) {
	a, b, e := readTwo(vineA, shootA, vineB, shootB)
	if e != api.OK {
		return 0, e
	}
	years := len(a) + len(b)
	lengthsA, lengthsB := a.lengths(years), b.lengths(years)
	for year := range years {
		if long(lengthsA[year], shootA) != long(lengthsB[year], shootB) {
			return year, api.OK
		}
	}
	return 0, api.ErrPlan
}

// Alike returns the first year in which two vines have different shoots.
func Alike(vineA []string, shootA string, vineB []string, shootB string) (int, api.Errno) {
	a, b, e := readTwo(vineA, shootA, vineB, shootB)
	if e != api.OK {
		return 0, e
	}
	lengthsA, lengthsB := a.lengths(api.MaxAlike), b.lengths(api.MaxAlike)
	for year := range api.MaxAlike {
		n := long(lengthsA[year], shootA)
		if n != long(lengthsB[year], shootB) {
			return year, api.OK
		}
		if n > api.MaxLetters {
			return 0, api.ErrFull
		}
		if a.grow(shootA, lengthsA[:year+1]) != b.grow(shootB, lengthsB[:year+1]) {
			return year, api.OK
		}
	}
	return 0, api.ErrPlan
}

// Recurrence returns the coefficients by which the lengths of any shoot follow from those of the years before.
func Recurrence(vine []string, shoot string) ([]int, api.Errno) {
	r, e := read(vine, shoot)
	if e != api.OK {
		return nil, e
	}
	m := matrix(r, asWhole)
	out := make([]int, len(r))
	rest := one(len(r))
	for i := range out {
		// Faddeev and Leverrier: the trace is a multiple of the coefficient's number.
		rest = product(m, rest)
		c := trace(rest) / whole(i+1)
		for p := range rest {
			rest[p][p] -= c
		}
		out[i] = int(c)
	}
	return out, api.OK
}

// one returns the matrix that changes nothing.
func one(size int) [][]whole {
	out := make([][]whole, size)
	for p := range out {
		out[p] = make([]whole, size)
		out[p][p] = 1
	}
	return out
}

func trace(m [][]whole) whole {
	var out whole
	for p := range m {
		out += m[p][p]
	}
	return out
}
