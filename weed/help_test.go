package weed_test

import (
	"math"
	"strings"

	"dibber/api"
)

var wrongRules = []int{-1, 256, math.MinInt, math.MaxInt, -256, 1 << 32}

// badRows are strings that are not rows of at most 400 plots, with their errors.
var badRows = map[string]api.Errno{
	"":                               api.ErrForm,
	"2":                              api.ErrForm,
	"0102":                           api.ErrForm,
	"01 0":                           api.ErrForm,
	"01\x00":                         api.ErrForm,
	"/1":                             api.ErrForm,
	"1é":                             api.ErrForm,
	strings.Repeat("0", 401):         api.ErrLimit,
	strings.Repeat("x", 401):         api.ErrLimit,
	strings.Repeat("0", 399) + "x":   api.ErrForm,
	"x" + strings.Repeat("1", 399):   api.ErrForm,
	strings.Repeat("01", 100) + "\n": api.ErrForm,
}

// rows are all rows of so many plots, in lexicographic order.
func rows(plots int) []string {
	out := []string{""}
	for range plots {
		var longer []string
		for _, row := range out {
			longer = append(longer, row+"0", row+"1")
		}
		out = longer
	}
	return out
}

// comes is what comes of three plots, read from the chapter.
func comes(rule int, l, c, r byte) byte {
	return '0' + byte(rule>>(4*int(l-'0')+2*int(c-'0')+int(r-'0')))&1
}

func grown(rule int, row string) string {
	var out []byte
	for i := 1; i+1 < len(row); i++ {
		out = append(out, comes(rule, row[i-1], row[i], row[i+1]))
	}
	return string(out)
}

func ringed(rule int, row string) string {
	var out []byte
	n := len(row)
	for i := range n {
		out = append(out, comes(rule, row[(i+n-1)%n], row[i], row[(i+1)%n]))
	}
	return string(out)
}

// flipped is the row with 0 and 1 exchanged.
func flipped(row string) string {
	return strings.NewReplacer("0", "1", "1", "0").Replace(row)
}

func backwards(row string) string {
	var out []byte
	for i := len(row) - 1; i >= 0; i-- {
		out = append(out, row[i])
	}
	return string(out)
}
