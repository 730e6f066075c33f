package bed_test

import (
	"math"
	"math/rand"
	"slices"
	"testing"

	"dibber/api"
	"dibber/bed"
)

func TestRowAndRows(t *testing.T) {
	for _, c := range []struct {
		n     int
		start [][]int
		row   []int
		rows  int
	}{
		{1, nil, []int{0}, 1},
		{2, [][]int{{1, 0}}, []int{0, 1}, 1},
		{3, three[:1], []int{1, 2, 0}, 2},
		{3, three[:2], []int{2, 0, 1}, 1},
		{4, klein[:1], []int{1, 0, 3, 2}, 9},
		{4, klein[:2], []int{2, 3, 0, 1}, 4},
		{4, klein[:3], []int{3, 2, 1, 0}, 1},
		{7, nil, []int{0, 1, 2, 3, 4, 5, 6}, 5040},
		{7, [][]int{{}}[:0], []int{0, 1, 2, 3, 4, 5, 6}, 5040},
		{7, [][]int{{0, 1, 2, 3, 4, 5, 6}}, []int{1, 0, 3, 2, 5, 6, 4}, 1854},
	} {
		if l, e := bed.Row(c.n, c.start); !slices.Equal(l, c.row) || e != api.OK {
			t.Error(c, l, e)
		}
		if n, e := bed.Rows(c.n, c.start); n != c.rows || e != api.OK {
			t.Error(c, n, e)
		}
	}
}

func TestRowAfterAFullBed(t *testing.T) {
	for _, b := range [][][]int{{{0}}, {{1, 0}, {0, 1}}, three, klein} {
		if l, e := bed.Row(len(b), b); l != nil || e != api.ErrPlan {
			t.Error(b, l, e)
		}
		if n, e := bed.Rows(len(b), b); n != 0 || e != api.OK {
			t.Error(b, n, e)
		}
	}
}

func TestWhatIsNotAStartIsRefused(t *testing.T) {
	for name, c := range map[string]struct {
		n     int
		start [][]int
	}{
		"no crops":          {0, nil},
		"fewer than none":   {-1, nil},
		"too many crops":    {8, nil},
		"the highest int":   {math.MaxInt, nil},
		"the lowest int":    {math.MinInt, nil},
		"too many rows":     {1, [][]int{{0}, {0}}},
		"full and more":     {3, append(clone(three), []int{0, 1, 2})},
		"unsown":            {3, [][]int{{0, 1, -1}}},
		"a row too short":   {3, [][]int{{0, 1}}},
		"a row too long":    {3, [][]int{{0, 1, 2, 3}}},
		"a nil row":         {3, [][]int{nil}},
		"a crop too high":   {3, [][]int{{0, 1, 3}}},
		"a crop too low":    {3, [][]int{{0, 1, -2}}},
		"twice in a row":    {3, [][]int{{0, 1, 1}}},
		"twice in a column": {3, [][]int{{0, 1, 2}, {0, 2, 1}}},
		"other size":        {4, three},
	} {
		if l, e := bed.Row(c.n, c.start); l != nil || e != api.ErrArg {
			t.Error(name, l, e)
		}
		if n, e := bed.Rows(c.n, c.start); n != 0 || e != api.ErrArg {
			t.Error(name, n, e)
		}
	}
}

func TestRowsOfRandomStarts(t *testing.T) {
	rng := rand.New(rand.NewSource(11))
	for range 300 {
		n := 1 + rng.Intn(api.MaxCrops)
		k := rng.Intn(n)
		start := someFull(rng, n)[:k]
		rows := rowsAfter(n, start)
		if l, e := bed.Row(n, start); e != api.OK || !slices.Equal(l, rows[0]) {
			t.Fatal(start, l, e)
		}
		got, e := bed.Rows(n, start)
		if e != api.OK || got != len(rows) {
			t.Fatal(start, got, e)
		}
		if got < factorial(n-k) {
			t.Fatal(start, got)
		}
	}
}

// rowsAfter are the rows that can be sown after a start, in lexicographic order.
func rowsAfter(n int, start [][]int) [][]int {
	var out [][]int
	for _, row := range orders(n) {
		fits := true
		for _, above := range start {
			for c := range n {
				fits = fits && above[c] != row[c]
			}
		}
		if fits {
			out = append(out, row)
		}
	}
	return out
}

// Each start that is sown on in any way can be sown on again, up to the full bed.
func TestHall(t *testing.T) {
	var sown func(n int, start [][]int) int
	sown = func(n int, start [][]int) int {
		rows, e := bed.Rows(n, start)
		if e != api.OK || len(start) < n && rows < factorial(n-len(start)) {
			t.Fatal(start, rows, e)
		}
		if len(start) == n {
			return 1
		}
		full := 0
		for _, row := range rowsAfter(n, start) {
			full += sown(n, append(clone(start), row))
		}
		return full
	}
	for n, want := range []int{1: 1, 2: 2, 3: 12, 4: 576} {
		if n > 0 {
			if full := sown(n, nil); full != want {
				t.Error(n, full)
			}
		}
	}
	for n := 1; n <= api.MaxCrops; n++ {
		var start [][]int
		for range n {
			row, e := bed.Row(n, start)
			if e != api.OK {
				t.Fatal(start, e)
			}
			start = append(start, row)
		}
		if least, _ := bed.Fill(empty(n)); less(start, least) {
			t.Error(n, start, least)
		}
	}
}

func TestSmetaniuk(t *testing.T) {
	rng := rand.New(rand.NewSource(12))
	for range 1000 {
		n := 1 + rng.Intn(api.MaxCrops)
		b := someBed(rng, n, n-1)
		if l, e := bed.Fill(b); e != api.OK || !fills(l, b) {
			t.Fatal(b, l, e)
		}
	}
	for n := 2; n <= api.MaxCrops; n++ {
		alone, row := empty(n), empty(n)
		for i := range n - 1 {
			alone[i][i] = 0
			row[0][i] = i
		}
		for _, b := range [][][]int{alone, row} {
			if l, e := bed.Fill(b); e != api.OK || !fills(l, b) {
				t.Error(b, l, e)
			}
		}
		row[1][n-1] = n - 1
		if _, e := bed.Fill(row); e != api.ErrPlan {
			t.Error(row, e)
		}
	}
}
