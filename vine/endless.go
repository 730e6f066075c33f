package vine

import (
	"iter"
	"strings"

	"dibber/api"
)

// bud reports whether the shoots of a part go on for ever, each as the beginning of the next one.
func (r rules) bud(p int) bool {
	rest, ok := strings.CutPrefix(r[p], letter(p))
	if !ok {
		return false
	}
	_, dead := r.dies(rest)
	return !dead
}

// endless yields the first letters of the endless shoot of a bud, with their places. The shoot becomes itself: what its letters become, one after the other, is the shoot, and always further on than the letter that becomes it.
func (r rules) endless(bud int) iter.Seq2[int, byte] {
	return func(yield func(int, byte) bool) {
		shoot := []byte(r[bud])
		for place := 0; place < api.MaxLetters; place++ {
			if place > 0 {
				shoot = append(shoot, r[part(shoot[place])]...)
			}
			if !yield(place, shoot[place]) {
				return
			}
		}
	}
}

// Endless returns the parts that are buds.
func Endless(vine []string) ([]int, api.Errno) {
	r, e := readVine(vine)
	if e != api.OK {
		return nil, e
	}
	var out []int
	for p := range r {
		if r.bud(p) {
			out = append(out, p)
		}
	}
	return out, api.OK
}

// readBud returns the rules of a vine and the part that is the bud.
func readBud(vine []string, bud string) (rules, int, api.Errno) {
	r, e := readVine(vine)
	if e != api.OK {
		return nil, 0, e
	}
	if len(bud) != 1 || !r.has(bud) {
		return nil, 0, api.ErrForm
	}
	p := part(bud[0])
	if !r.bud(p) {
		return nil, 0, api.ErrPlan
	}
	return r, p, api.OK
}

// Letter returns the letter at a place of the endless shoot of a bud.
func Letter(vine []string, bud string, place int) (string, api.Errno) {
	r, p, e := readBud(vine, bud)
	if e != api.OK {
		return "", e
	}
	for at, b := range r.endless(p) {
		if at == place {
			return string([]byte{b}), api.OK
		}
	}
	return "", api.ErrRange
}

// Factors returns how many strings of a length the endless shoot of a bud has in its first letters.
func Factors(vine []string, bud string, length int) (int, api.Errno) {
	r, p, e := readBud(vine, bud)
	if e != api.OK {
		return 0, e
	}
	if length < 1 || length > 10 {
		return 0, api.ErrArg
	}
	var shoot []byte
	for _, b := range r.endless(p) {
		shoot = append(shoot, b)
	}
	seen := map[string]bool{}
	for end := length; end <= len(shoot); end++ {
		seen[string(shoot[end-length:end])] = true
	}
	return len(seen), api.OK
}
