// Package weed is layer 2, rules of three neighbours: what rows of weed can come of others, and which rows they come of.
package weed

import "dibber/api"

// rule is the number of a rule: its bit 4 l + 2 c + r is what comes of the plots l, c and r.
type rule uint8

func readRule(n int) (rule, api.Errno) {
	if n < 0 || n > 255 {
		return 0, api.ErrArg
	}
	return rule(n), api.OK
}

// next returns what comes of three plots, which are the bits of a number.
func (u rule) next(three int) int { return int(u>>three) & 1 }

// nextMirrored is next, with left and right exchanged.
func (u rule) nextMirrored(three int) int { return u.next(three&1<<2 | three&2 | three>>2) }

// nextExchanged is next, with 0 and 1 exchanged.
func (u rule) nextExchanged(three int) int { return 1 - u.next(7-three) }

// as returns the rule of which comes what next finds of this one.
func (u rule) as(next func(rule, int) int) rule {
	var out rule
	for three := range 8 {
		out |= rule(next(u, three)) << three
	}
	return out
}

// additive reports whether what comes of two sets of three plots tells what comes of their exclusive or.
func (u rule) additive() bool {
	for a := range 8 {
		for b := range 8 {
			if u.next(a^b) != u.next(a)^u.next(b) {
				return false
			}
		}
	}
	return true
}

// Mirror returns the rule with left and right exchanged, and the rule with 0 and 1 exchanged.
func Mirror(rule int) (int, int, api.Errno) {
	u, e := readRule(rule)
	if e != api.OK {
		return 0, 0, e
	}
	mirrored, exchanged := mirrors(u)
	return int(mirrored), int(exchanged), api.OK
}

func mirrors(u rule) (rule, rule) {
	return u.as(rule.nextMirrored), u.as(rule.nextExchanged)
}

// Additive reports whether of the exclusive or of two rows always comes the exclusive or of what comes of both.
func Additive(rule int) (bool, api.Errno) {
	u, e := readRule(rule)
	if e != api.OK {
		return false, e
	}
	return u.additive(), api.OK
}
