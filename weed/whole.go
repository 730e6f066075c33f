package weed

import "dibber/api"

// orphan returns the shortest row that comes of no row, of several the lexicographically least one, and "" if there
// is none. Of all rows that lead to the same set of pairs it looks only at the first.
func (u rule) orphan() string {
	type lead struct {
		to  pairs
		row string
	}
	seen := [allPairs + 1]bool{allPairs: true}
	leads := []lead{{allPairs, ""}}
	for i := 0; i < len(leads); i++ {
		for came := range 2 {
			next := lead{u.ahead(leads[i].to, came), leads[i].row + string(plot(came))}
			if next.to == 0 {
				return next.row
			}
			if !seen[next.to] {
				seen[next.to] = true
				leads = append(leads, next)
			}
		}
	}
	return ""
}

// Eden returns the shortest row of which no row becomes it, if it has at most most plots.
func Eden(rule, most int) (string, api.Errno) {
	u, e := readRule(rule)
	if e != api.OK {
		return "", e
	}
	if most < 1 || most > api.MaxOrphan {
		return "", api.ErrArg
	}
	row := u.orphan()
	if row == "" || len(row) > most {
		return "", api.ErrPlan
	}
	return row, api.OK
}

// Onto reports whether every endless row comes of some endless row.
func Onto(rule int) (bool, api.Errno) {
	u, e := readRule(rule)
	if e != api.OK {
		return false, e
	}
	return u.orphan() == "", api.OK
}

// couples is a set of places at which two walks are: the first in the pair p and the second in q is the couple 4 p + q.
type couples uint16

const (
	allCouples  couples = 1<<16 - 1
	sameCouples couples = 1<<0 | 1<<5 | 1<<10 | 1<<15
)

// lasting returns the couples of s that come of one of s, and go to one of s, so that the same comes of both walks.
func (u rule) lasting(s couples) couples {
	var from, to couples
	for a := range 8 {
		for b := range 8 {
			before, after := couples(1)<<(a>>1<<2|b>>1), couples(1)<<(a&3<<2|b&3)
			if u.next(a) == u.next(b) && s&before != 0 && s&after != 0 {
				from |= before
				to |= after
			}
		}
	}
	return s & from & to
}

// oneToOne reports whether two walks of which the same comes, without beginning and end, are always together.
func (u rule) oneToOne() bool {
	s := allCouples
	for kept := u.lasting(s); kept != s; kept = u.lasting(s) {
		s = kept
	}
	return s == sameCouples
}

// OneToOne reports whether no two different endless rows become the same.
func OneToOne(rule int) (bool, api.Errno) {
	u, e := readRule(rule)
	if e != api.OK {
		return false, e
	}
	return u.oneToOne(), api.OK
}

// twins returns the least two different rings of some plots that become the same, if there are any.
func (u rule) twins(plots int) (string, string, bool) {
	first := map[string]string{}
	second := map[string]string{}
	for n := range 1 << plots {
		row := ringOf(n, plots)
		becomes := u.ring(row)
		if _, ok := first[becomes]; !ok {
			first[becomes] = row
		} else if _, ok := second[first[becomes]]; !ok {
			second[first[becomes]] = row
		}
	}
	for n := range 1 << plots {
		row := ringOf(n, plots)
		if other, ok := second[row]; ok {
			return row, other, true
		}
	}
	return "", "", false
}

// ringOf returns a ring whose plots are the bits of a number.
func ringOf(n, plots int) string {
	out := make([]byte, plots)
	for i := range out {
		out[i] = plot(n >> (plots - 1 - i) & 1)
	}
	return string(out)
}

// Twins returns two different rings, with the fewest plots, that become the same ring. A rule that is not one to one
// has some: two walks that part and come together again can be led back to their beginning.
func Twins(rule int) (string, string, api.Errno) {
	u, e := readRule(rule)
	if e != api.OK {
		return "", "", e
	}
	if u.oneToOne() {
		return "", "", api.ErrPlan
	}
	for plots := 1; ; plots++ {
		if a, b, ok := u.twins(plots); ok {
			return a, b, api.OK
		}
	}
}
