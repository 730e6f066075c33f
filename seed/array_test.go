package seed_test

import (
	"math"
	"math/big"
	"sort"
	"strings"
	"testing"

	"dibber/api"
	"dibber/seed"
)

// place is the number of the word at a place of the array.
func place(row, column int) *big.Int {
	start := "1"
	if row > 0 {
		start = word(row) + "01"
	}
	return moved(ones(start+strings.Repeat("0", column)), 0)
}

func compareArray(t *testing.T, row, column int) api.Errno {
	t.Helper()
	want, e := answer(place(row, column))
	got, f := seed.Array(row, column)
	if got != want || f != e {
		t.Fatal(row, column, got, f, want, e)
	}
	if e != api.OK {
		return e
	}
	if r, c, e := seed.Where(got); r != row || c != column || e != api.OK {
		t.Fatal(row, column, got, r, c, e)
	}
	return e
}

func TestArray(t *testing.T) {
	for row, want := range [][]int{{1, 2, 3, 5, 8, 13}, {4, 7, 11, 18, 29, 47}, {6, 10, 16, 26, 42, 68}, {9, 15, 24, 39, 63, 102}, {12, 20, 32, 52, 84, 136}} {
		for column, n := range want {
			if got, e := seed.Array(row, column); got != n || e != api.OK {
				t.Error(row, column, got, e, n)
			}
		}
	}
	for row := range 300 {
		for column := range 100 {
			compareArray(t, row, column)
		}
	}
	for _, row := range large() {
		for column := range 90 {
			if compareArray(t, row, column) != api.OK {
				break
			}
		}
	}
}

func TestArrayAtTheLimits(t *testing.T) {
	for column := range 87 {
		above := sort.Search(most, func(row int) bool { return !inRange(place(row, column)) })
		if e, f := compareArray(t, above-1, column), compareArray(t, above, column); e != api.OK || f != api.ErrRange {
			t.Error(column, above, e, f)
		}
	}
	row, column, e := seed.Where(most)
	if got, f := seed.Array(row, column); got != most || e != api.OK || f != api.OK {
		t.Error(row, column, e, got, f)
	}
	next := strings.TrimRight(word(most+1), "0")
	row, _ = seed.Read(strings.TrimSuffix(next, "01"))
	column = len(word(most+1)) - len(next)
	if place(row, column).Cmp(big.NewInt(most+1)) != 0 || compareArray(t, row, column) != api.ErrRange {
		t.Error(row, column)
	}
	for _, row := range []int{0, 1, 2, 1 << 30, most - 1, most} {
		for _, column := range []int{87, 88, 89, 90, 1000, 1 << 32, most - 1, most} {
			if got, e := seed.Array(row, column); got != 0 || e != api.ErrRange {
				t.Error(row, column, got, e)
			}
		}
	}
	if got, e := seed.Array(0, 86); got != small(88) || e != api.OK {
		t.Error(got, e)
	}
}

// TestEachNumberIsInTheArrayOnce is P9.12.
func TestEachNumberIsInTheArrayOnce(t *testing.T) {
	const size = 5000
	times := make([]int, size)
	for row := range size {
		for column := range 20 {
			if n, e := seed.Array(row, column); e == api.OK && n < size {
				times[n]++
			}
		}
	}
	for n := 1; n < size; n++ {
		row, column, e := seed.Where(n)
		if got, f := seed.Array(row, column); got != n || e != api.OK || f != api.OK || times[n] != 1 {
			t.Fatal(n, row, column, e, got, f, times[n])
		}
	}
	for _, n := range large() {
		row, column, e := seed.Where(n)
		if n == 0 {
			continue
		}
		if got, f := seed.Array(row, column); got != n || e != api.OK || f != api.OK {
			t.Fatal(n, row, column, e, got, f)
		}
	}
}

// TestRowsOfTheArray is P9.12, too.
func TestRowsOfTheArray(t *testing.T) {
	for _, row := range append(firstNumbers(500), large()...) {
		for column := 2; column < 87; column++ {
			got, e := seed.Array(row, column)
			if e != api.OK {
				break
			}
			one, _ := seed.Array(row, column-1)
			two, _ := seed.Array(row, column-2)
			if got != one+two {
				t.Fatal(row, column, two, one, got)
			}
		}
	}
}

func TestWhereOfNothing(t *testing.T) {
	if row, column, e := seed.Where(0); row != 0 || column != 0 || e != api.ErrArg {
		t.Error(row, column, e)
	}
	for _, n := range []int{-1, math.MinInt, most + 1} { // ErrRange comes first
		if row, column, e := seed.Where(n); row != 0 || column != 0 || e != api.ErrRange {
			t.Error(n, row, column, e)
		}
	}
}
