package seed_test

import (
	"math"
	"math/big"
	"math/rand"
	"slices"
	"strings"

	"dibber/api"
	"dibber/seed"
)

const most = api.MaxNumber

// outside are no numbers.
func outside() []int {
	return []int{math.MinInt, math.MinInt + 1, -most - 1, -most, -2, -1, most + 1, most + 2, 2 * most, math.MaxInt - 1, math.MaxInt}
}

// fibs are F(from), F(from + 1), .. of any size.
const from, until = -100, 300

var fibs = func() []*big.Int {
	out := make([]*big.Int, until-from)
	set := func(i int, n *big.Int) { out[i-from] = n }
	get := func(i int) *big.Int { return out[i-from] }
	set(0, big.NewInt(0))
	set(1, big.NewInt(1))
	for i := 2; i < until; i++ {
		set(i, new(big.Int).Add(get(i-1), get(i-2)))
	}
	for i := -1; i >= from; i-- {
		set(i, new(big.Int).Sub(get(i+2), get(i+1)))
	}
	return out
}()

func fib(i int) *big.Int { return fibs[i-from] }

// small is F(i) as an int.
func small(i int) int { return int(fib(i).Int64()) }

// tails are all strings of so many 0 and 1, in their order, in which no two 1 are next to each other.
func tails(length int) []string {
	if length == 0 {
		return []string{""}
	}
	var out []string
	for _, tail := range tails(length - 1) {
		out = append(out, "0"+tail)
	}
	for _, tail := range tails(length - 1) {
		if !strings.HasPrefix(tail, "1") {
			out = append(out, "1"+tail)
		}
	}
	return out
}

// firstWords are the words of 0, 1, 2, .., which are in the order of their lengths, and of the strings of one length.
func firstWords(count int) []string {
	out := []string{"0"}
	for length := 1; len(out) < count; length++ {
		for _, tail := range tails(length) {
			if tail[0] == '1' {
				out = append(out, tail)
			}
		}
	}
	return out[:count]
}

// ones are the i of all F(i) that a word names.
func ones(word string) []int {
	var out []int
	for at := range len(word) {
		if word[at] == '1' {
			out = append(out, len(word)-at+1)
		}
	}
	return out
}

// moved is the sum of F(i + by).
func moved(list []int, by int) *big.Int {
	sum := new(big.Int)
	for _, i := range list {
		sum.Add(sum, fib(i+by))
	}
	return sum
}

// wordOf is the word of a number of any size.
func wordOf(n *big.Int) string {
	left := new(big.Int).Set(n)
	word := ""
	for i := until - 1; i >= 2; i-- {
		if left.Cmp(fib(i)) >= 0 {
			left.Sub(left, fib(i))
			word += "1"
		} else if word != "" {
			word += "0"
		}
	}
	return max(word, "0")
}

func word(n int) string { return wordOf(big.NewInt(int64(n))) }

func inRange(n *big.Int) bool {
	return n.Cmp(big.NewInt(-most)) >= 0 && n.Cmp(big.NewInt(most)) <= 0
}

// answer is what a function should return whose result is n, if that is in range.
func answer(n *big.Int) (int, api.Errno) {
	if !inRange(n) {
		return 0, api.ErrRange
	}
	return int(n.Int64()), api.OK
}

func circle(a, b int) *big.Int {
	sum := new(big.Int)
	for _, j := range ones(word(b)) {
		sum.Add(sum, moved(ones(word(a)), j))
	}
	return sum
}

// pair is the lost pair that differs by k: k times the golden ratio, rounded down, and that and k.
func pair(k int) (*big.Int, *big.Int) {
	n := big.NewInt(int64(k))
	a := new(big.Int).Mul(n, n)
	a.Mul(a, big.NewInt(5)).Sqrt(a)
	a.Add(a, n).Rsh(a, 1)
	return a, new(big.Int).Add(a, n)
}

// anyNumber is random, of a random number of bits.
func anyNumber(r *rand.Rand) int {
	return r.Intn(min(most, 1<<r.Intn(61)) + 1)
}

// large are numbers at the limit and around all Fibonacci numbers, and random ones.
func large() []int {
	out := []int{most, most - 1, most - 2, api.MaxPair - 1, api.MaxPair, api.MaxPair + 1}
	for i := 2; i <= 88; i++ {
		for n := max(0, small(i)-2); n <= small(i)+2; n++ {
			out = append(out, n)
		}
	}
	r := rand.New(rand.NewSource(90))
	for range 500 {
		out = append(out, anyNumber(r))
	}
	slices.Sort(out)
	return slices.Compact(out)
}

// everything calls all functions and keeps their results.
func everything(a, b int, text string) []any {
	var out []any
	keep := func(results ...any) { out = append(out, results...) }
	keep(two(seed.Write(a)))
	keep(two(seed.Read(text)))
	keep(two(seed.Tidy(text)))
	keep(two(seed.Sums(a)))
	keep(two(seed.Circle(a, b)))
	keep(two(seed.Shift(a, b)))
	keep(two(seed.Letter(a)))
	keep(three(seed.Pair(a)))
	keep(two(seed.Lost(a, b)))
	keep(three(seed.Move(a, b)))
	keep(two(seed.Take(a, b)))
	keep(two(seed.Array(a, b)))
	keep(three(seed.Where(a)))
	return out
}

func two[A, B any](a A, b B) []any { return []any{a, b} }

func three[A, B, C any](a A, b B, c C) []any { return []any{a, b, c} }
