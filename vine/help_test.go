package vine_test

import (
	"math/big"
	"math/rand"
	"strings"

	"dibber/api"
)

var (
	rabbit = []string{"ab", "a"}
	slow   = []string{"ab", "b"}
	thue   = []string{"ab", "ba"}
	fading = []string{"b", "c", "d", "e", "f", ""}
)

// badVines are lists that are not vines, with their errors.
var badVines = []struct {
	vine []string
	want api.Errno
}{
	{nil, api.ErrArg},
	{[]string{}, api.ErrArg},
	{[]string{"a", "a", "a", "a", "a", "a", "a"}, api.ErrArg},
	{[]string{"x", "", "", "", "", "", "a"}, api.ErrArg},
	{[]string{"b"}, api.ErrForm},
	{[]string{"aaaaaaaaa"}, api.ErrForm},
	{[]string{"a", "", "aaaaaaaaa"}, api.ErrForm},
	{[]string{"ac", "b"}, api.ErrForm},
	{[]string{"b", "Ab"}, api.ErrForm},
	{[]string{"`"}, api.ErrForm},
	{[]string{"a b", "a"}, api.ErrForm},
	{[]string{"a", "b", "c", "d", "e", "g"}, api.ErrForm},
	{[]string{"a\x00"}, api.ErrForm},
	{[]string{"\xff"}, api.ErrForm},
	{[]string{"é"}, api.ErrForm},
}

// badShoots are strings that are not shoots of a vine of two parts.
var badShoots = []string{"c", "abc", "A", "`", "-", "a b", "ab\n", "é", "\x00", "\xff", strings.Repeat("a", 31), strings.Repeat("ab", 500)}

// grown is the shoot after some years, drawn year by year.
func grown(vine []string, shoot string, years int) string {
	for range years {
		var next strings.Builder
		for _, c := range []byte(shoot) {
			next.WriteString(vine[c-'a'])
		}
		shoot = next.String()
	}
	return shoot
}

// counts are how many letters of each part the shoot has after 0, 1, .. years.
func counts(vine []string, shoot string, years int) [][]*big.Int {
	row := make([]*big.Int, len(vine))
	for p := range row {
		row[p] = big.NewInt(int64(strings.Count(shoot, letters[p:p+1])))
	}
	out := [][]*big.Int{row}
	for range years {
		next := make([]*big.Int, len(vine))
		for p := range next {
			next[p] = new(big.Int)
			for q, becomes := range vine {
				n := big.NewInt(int64(strings.Count(becomes, letters[p:p+1])))
				next[p].Add(next[p], n.Mul(n, row[q]))
			}
		}
		row = next
		out = append(out, row)
	}
	return out
}

const letters = "abcdef"

func sum(row []*big.Int) *big.Int {
	out := new(big.Int)
	for _, n := range row {
		out.Add(out, n)
	}
	return out
}

// lengths are how many letters the shoot has after 0, 1, .. years.
func lengths(vine []string, shoot string, years int) []*big.Int {
	var out []*big.Int
	for _, row := range counts(vine, shoot, years) {
		out = append(out, sum(row))
	}
	return out
}

// words are all strings of at most so many letters of the first parts.
func words(parts, long int) []string {
	out := []string{""}
	last := out
	for range long {
		var next []string
		for _, word := range last {
			for p := range parts {
				next = append(next, word+letters[p:p+1])
			}
		}
		out = append(out, next...)
		last = next
	}
	return out
}

// smallVines are all vines of one part that becomes at most three letters and of two parts that become at most two.
func smallVines() [][]string {
	var out [][]string
	for _, word := range words(1, 3) {
		out = append(out, []string{word})
	}
	for _, a := range words(2, 2) {
		for _, b := range words(2, 2) {
			out = append(out, []string{a, b})
		}
	}
	return out
}

func randomWord(rng *rand.Rand, parts, long int) string {
	var out strings.Builder
	for range rng.Intn(long + 1) {
		out.WriteByte(letters[rng.Intn(parts)])
	}
	return out.String()
}

// randomVine is a vine whose parts become at most so many letters, mostly of later parts if it is a thin one.
func randomVine(rng *rand.Rand, long int, thin bool) []string {
	out := make([]string, 1+rng.Intn(api.MaxParts))
	for p := range out {
		out[p] = randomWord(rng, len(out), long)
		if thin && rng.Intn(5) > 0 {
			out[p] = strings.Map(func(c rune) rune { return max(c, 'a'+rune(p)) }, out[p])
		}
	}
	return out
}
