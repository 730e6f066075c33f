package seed_test

import (
	"math"
	"math/big"
	"math/rand"
	"slices"
	"sort"
	"strings"
	"testing"

	"dibber/api"
	"dibber/seed"
)

func TestSums(t *testing.T) {
	ways := make([]int, 20000)
	ways[0] = 1
	for i := 2; small(i) < len(ways); i++ {
		for n := len(ways) - 1; n >= small(i); n-- {
			ways[n] += ways[n-small(i)]
		}
	}
	for n, want := range ways {
		if got, e := seed.Sums(n); got != want || e != api.OK {
			t.Fatal(n, got, e, want)
		}
	}
}

// sums counts the ways from the greatest Fibonacci number down: all below it together are F(i + 2) - 2.
func sums(n, i int, known map[[2]int]int) int {
	if n == 0 {
		return 1
	}
	if n < 0 || i < 2 || i < 88 && n > small(i+2)-2 {
		return 0
	}
	key := [2]int{n, i}
	if ways, is := known[key]; is {
		return ways
	}
	ways := sums(n, i-1, known) + sums(n-small(i), i-1, known)
	known[key] = ways
	return ways
}

func TestLargeSums(t *testing.T) {
	for _, n := range large() {
		want := sums(n, 88, map[[2]int]int{})
		if got, e := seed.Sums(n); got != want || e != api.OK {
			t.Fatal(n, got, e, want)
		}
	}
	for gap := 2; gap < 20; gap++ {
		for first := 80; first <= 87; first++ {
			n := 0
			for i := first; i >= 2; i -= gap {
				n += small(i)
			}
			want := sums(n, 88, map[[2]int]int{})
			if got, e := seed.Sums(n); got != want || e != api.OK {
				t.Fatal(gap, first, got, e, want)
			}
		}
	}
}

// TestSumsOfFibonacciNumbers is P9.13 of sums.
func TestSumsOfFibonacciNumbers(t *testing.T) {
	for k := 2; k <= 88; k++ {
		if got, e := seed.Sums(small(k)); got != k/2 || e != api.OK {
			t.Error(k, got, e)
		}
		if got, e := seed.Sums(small(k) - 1); got != 1 || e != api.OK {
			t.Error(k, got, e)
		}
	}
}

func compareCircle(t *testing.T, a, b int) api.Errno {
	t.Helper()
	want, e := answer(circle(a, b))
	if got, f := seed.Circle(a, b); got != want || f != e {
		t.Fatal(a, b, got, f, want, e)
	}
	if got, f := seed.Circle(b, a); got != want || f != e { // P9.9
		t.Fatal(b, a, got, f, want, e)
	}
	return e
}

func TestCircle(t *testing.T) {
	for a := range 60 {
		for b := range a + 1 {
			compareCircle(t, a, b)
		}
	}
	r := rand.New(rand.NewSource(93))
	count := map[api.Errno]int{}
	for range 2000 {
		a := 1 + anyNumber(r)/2
		b := r.Intn(min(most, most/a+2))
		count[compareCircle(t, a, b)]++
	}
	if count[api.OK] < 300 || count[api.ErrRange] < 300 {
		t.Error(count)
	}
}

func TestCircleAtTheLimits(t *testing.T) {
	for _, c := range []struct {
		a, b, want int
		e          api.Errno
	}{
		{4, 121717161797948261, most - 1, api.OK},
		{30, 17069945203196625, most - 1, api.OK},
		{47241, 10914247031634, most - 1, api.OK},
		{1, 440376828399147071, 0, api.ErrRange}, // these are MaxNumber + 1
		{5, 103958867217958599, 0, api.ErrRange},
		{683, 754965954020176, 0, api.ErrRange},
		{most, most, 0, api.ErrRange},
		{most, 1, 0, api.ErrRange},
		{most, 0, 0, api.OK},
		{0, 0, 0, api.OK},
	} {
		compareCircle(t, c.a, c.b)
		if got, e := seed.Circle(c.a, c.b); got != c.want || e != c.e {
			t.Error(c, got, e)
		}
	}
	for a := 1; a < 200; a++ {
		above := sort.Search(most, func(b int) bool { return !inRange(circle(a, b)) })
		if e, f := compareCircle(t, a, above-1), compareCircle(t, a, above); e != api.OK || f != api.ErrRange {
			t.Error(a, above, e, f)
		}
	}
	for _, n := range large() {
		compareCircle(t, n, most)
		compareCircle(t, n, n)
		compareCircle(t, n, small(88))
	}
}

// TestCircleInAnyOrder is P9.9.
func TestCircleInAnyOrder(t *testing.T) {
	check := func(a, b, c int) bool {
		ab, e := seed.Circle(a, b)
		bc, f := seed.Circle(b, c)
		if e != api.OK || f != api.OK {
			return false
		}
		left, e := seed.Circle(ab, c)
		right, f := seed.Circle(a, bc)
		if left != right || e != f {
			t.Fatal(a, b, c, left, e, right, f)
		}
		return e == api.OK
	}
	for a := range 25 {
		for b := range 25 {
			for c := range 25 {
				check(a, b, c)
			}
		}
	}
	r := rand.New(rand.NewSource(94))
	good := 0
	for range 1000 {
		if check(1+r.Intn(1<<r.Intn(30)), 1+r.Intn(1<<r.Intn(30)), 1+r.Intn(1<<r.Intn(30))) {
			good++
		}
	}
	if good < 300 {
		t.Error(good)
	}
	for _, n := range large() {
		one, e := seed.Circle(n, 1)
		two, f := seed.Shift(n, 2)
		if one != two || e != f {
			t.Fatal(n, one, e, two, f)
		}
	}
}

func compareShift(t *testing.T, n, by int) api.Errno {
	t.Helper()
	want, e := answer(moved(ones(word(n)), by))
	if got, f := seed.Shift(n, by); got != want || f != e {
		t.Fatal(n, by, got, f, want, e)
	}
	return e
}

func TestShift(t *testing.T) {
	count := map[api.Errno]int{}
	for by := -api.MaxShift; by <= api.MaxShift; by++ {
		for n := range 200 {
			count[compareShift(t, n, by)]++
		}
	}
	if count[api.OK] < 20000 || count[api.ErrRange] < 500 {
		t.Error(count)
	}
	numbers := large()
	for at := 0; at < len(numbers); at += 3 {
		for by := -api.MaxShift; by <= api.MaxShift; by++ {
			compareShift(t, numbers[at], by)
		}
	}
	below := 0
	for by := -api.MaxShift; by < 0; by++ {
		compareShift(t, most, by)
		if got, _ := seed.Shift(1, by); got < 0 {
			below++
		}
	}
	if below < 30 {
		t.Error(below)
	}
}

func TestShiftAtTheLimits(t *testing.T) {
	exact, e := seed.Read(strings.TrimSuffix(word(most), "0"))
	if got, f := seed.Shift(exact, 1); got != most || e != api.OK || f != api.OK {
		t.Error(got, e, f)
	}
	next := strings.TrimRight(word(most+1), "0")
	by := len(word(most+1)) - len(next)
	if n, e := seed.Read(next); by < 1 || e != api.OK || compareShift(t, n, by) != api.ErrRange {
		t.Error(next, by, e)
	}
	for by := range api.MaxShift + 1 {
		above := sort.Search(most, func(n int) bool { return !inRange(moved(ones(word(n)), by)) })
		if by == 0 {
			above = most
		} else if e := compareShift(t, above, by); e != api.ErrRange {
			t.Error(by, above, e)
		}
		if e := compareShift(t, above-1, by); e != api.OK {
			t.Error(by, above, e)
		}
		compareShift(t, most, by)
	}
}

func TestShiftByTooMuch(t *testing.T) {
	for _, by := range []int{api.MaxShift + 1, -api.MaxShift - 1, math.MinInt, math.MinInt + 1, math.MaxInt, most, -most} {
		for _, n := range []int{0, 1, 11, most} {
			if got, e := seed.Shift(n, by); got != 0 || e != api.ErrArg {
				t.Error(n, by, got, e)
			}
		}
	}
	for _, by := range []int{api.MaxShift, -api.MaxShift} {
		if got, e := seed.Shift(0, by); got != 0 || e != api.OK {
			t.Error(by, got, e)
		}
	}
}

// TestShiftedTwice is P9.14.
func TestShiftedTwice(t *testing.T) {
	numbers := append(firstNumbers(60), large()...)
	for _, n := range numbers {
		for j := range 12 {
			one, e := seed.Shift(n, j)
			if e != api.OK {
				continue
			}
			if n > 0 {
				if got, _ := seed.Write(one); got != word(n)+strings.Repeat("0", j) {
					t.Fatal(n, j, one, got)
				}
			}
			for k := range 12 {
				two, e := seed.Shift(one, k)
				both, f := seed.Shift(n, j+k)
				if two != both || e != f {
					t.Fatal(n, j, k, two, e, both, f)
				}
			}
		}
	}
}

func firstNumbers(count int) []int {
	out := make([]int, count)
	for n := range out {
		out[n] = n
	}
	return out
}

// TestModels compares what the tests take for granted with each other.
func TestModels(t *testing.T) {
	if got := []*big.Int{fib(2), fib(3), fib(1), fib(0), fib(-1), fib(-2), fib(-3), fib(-4)}; !slices.EqualFunc(got, []int64{1, 2, 1, 0, 1, -1, 2, -3}, func(a *big.Int, b int64) bool { return a.Int64() == b }) {
		t.Error(got)
	}
	for n, want := range firstWords(3000) {
		if got := word(n); got != want || moved(ones(want), 0).Int64() != int64(n) {
			t.Fatal(n, got, want)
		}
	}
	if fib(88).Cmp(big.NewInt(most)) > 0 || fib(89).Cmp(big.NewInt(most)) <= 0 {
		t.Error(fib(88), fib(89))
	}
}
