package seed_test

import (
	"math"
	"math/big"
	"math/rand"
	"testing"

	"dibber/api"
	"dibber/seed"
)

// TestPair looks for the least number that is in no pair before.
func TestPair(t *testing.T) {
	used := map[int]bool{}
	least := 0
	for k := range 5000 {
		for used[least] {
			least++
		}
		a, b, e := seed.Pair(k)
		if a != least || b != least+k || e != api.OK {
			t.Fatal(k, a, b, e, least)
		}
		used[a], used[b] = true, true
	}
}

func TestLargePairs(t *testing.T) {
	for _, k := range large() {
		a, b, e := seed.Pair(k)
		if k > api.MaxPair {
			if a != 0 || b != 0 || e != api.ErrRange {
				t.Fatal(k, a, b, e)
			}
			continue
		}
		x, y := pair(k)
		if big.NewInt(int64(a)).Cmp(x) != 0 || big.NewInt(int64(b)).Cmp(y) != 0 || e != api.OK {
			t.Fatal(k, a, b, e, x, y)
		}
	}
}

// TestWordsOfPairs is P9.10.
func TestWordsOfPairs(t *testing.T) {
	for _, k := range append(firstNumbers(3000), large()...) {
		a, b, e := seed.Pair(k)
		if k == 0 || e != api.OK {
			continue
		}
		one, _ := seed.Write(a)
		two, _ := seed.Write(b)
		zeros := 0
		for one[len(one)-1-zeros] == '0' {
			zeros++
		}
		if zeros%2 != 0 || two != one+"0" {
			t.Fatal(k, one, two)
		}
	}
}

// moves calls with all that can be taken from two heaps, by the first number, and then the second one.
func moves(a, b int, call func(x, y int)) {
	for x := range a + 1 {
		for y := range b + 1 {
			if x+y > 0 && (x == 0 || y == 0 || x == y) {
				call(x, y)
			}
		}
	}
}

func TestLostAndMove(t *testing.T) {
	const size = 60
	var lost [size][size]bool
	for a := range size {
		for b := range size {
			var first []int
			moves(a, b, func(x, y int) {
				if first == nil && lost[a-x][b-y] {
					first = []int{x, y}
				}
			})
			lost[a][b] = first == nil
			if is, e := seed.Lost(a, b); is != lost[a][b] || e != api.OK {
				t.Fatal(a, b, is, e)
			}
			x, y, e := seed.Move(a, b)
			if first == nil && (x != 0 || y != 0 || e != api.ErrPlan) {
				t.Fatal(a, b, x, y, e)
			}
			if first != nil && (x != first[0] || y != first[1] || e != api.OK) {
				t.Fatal(a, b, x, y, e, first)
			}
		}
	}
}

// isLost asks only how far the heaps are apart.
func isLost(a, b int) bool {
	x, y := pair(max(a, b) - min(a, b))
	return big.NewInt(int64(min(a, b))).Cmp(x) == 0 && big.NewInt(int64(max(a, b))).Cmp(y) == 0
}

// lastPair is the k of the last pair of which both are in range.
const lastPair = 440376828399147071

// TestLargeLost has pairs above those that Pair returns, too.
func TestLargeLost(t *testing.T) {
	if _, b := pair(lastPair); !inRange(b) {
		t.Fatal(b)
	}
	if _, b := pair(lastPair + 1); inRange(b) {
		t.Fatal(b)
	}
	check := func(a, b int, want bool) {
		t.Helper()
		if min(a, b) < 0 || max(a, b) > most {
			return
		}
		for _, c := range [][2]int{{a, b}, {b, a}} {
			if is, e := seed.Lost(c[0], c[1]); is != want || e != api.OK {
				t.Fatal(c, is, e, want)
			}
		}
	}
	numbers := append(large(), lastPair-1, lastPair)
	above := 0
	for _, k := range numbers {
		if k > lastPair {
			continue
		}
		if k > api.MaxPair {
			above++
		}
		x, y := pair(k)
		a, b := int(x.Int64()), int(y.Int64())
		check(a, b, true)
		for _, by := range []int{1, 2, 3, k + 1} {
			check(a+by, b, false)
			check(a-by, b, false)
			check(a, b+by, false)
			check(a, b-by, false)
			check(a+by, b+by, false)
			check(a-by, b-by, false)
		}
	}
	if above < 5 {
		t.Error(above)
	}
	for _, n := range numbers {
		check(n, n, n == 0)
		check(n, 0, n == 0)
		check(n, most, isLost(n, most))
	}
}

// partner is the other heap of the pair in which n is, found by halving: both numbers of the pairs rise with k.
func partner(n int) *big.Int {
	number := big.NewInt(int64(n))
	find := func(which func(k int) *big.Int) int {
		low, high := 0, most+1
		for low < high {
			k := (low + high) / 2
			if which(k).Cmp(number) < 0 {
				low = k + 1
			} else {
				high = k
			}
		}
		return low
	}
	first := func(k int) *big.Int { a, _ := pair(k); return a }
	second := func(k int) *big.Int { _, b := pair(k); return b }
	if k := find(first); first(k).Cmp(number) == 0 {
		return second(k)
	}
	return first(find(second))
}

// move finds what to take by the lost pairs: of a first heap as it is, of a second one as it is, and of the same difference.
func move(a, b int) (int, int, api.Errno) {
	if isLost(a, b) {
		return 0, 0, api.ErrPlan
	}
	if left := partner(a); left.Cmp(big.NewInt(int64(b))) < 0 {
		return 0, b - int(left.Int64()), api.OK
	}
	least := most + 1
	if left := partner(b); left.Cmp(big.NewInt(int64(a))) < 0 {
		least = a - int(left.Int64())
	}
	low, _ := pair(max(a, b) - min(a, b))
	if low.Cmp(big.NewInt(int64(min(a, b)))) < 0 {
		if both := min(a, b) - int(low.Int64()); both < least {
			return both, both, api.OK
		}
	}
	return least, 0, api.OK
}

func TestLargeMoves(t *testing.T) {
	r := rand.New(rand.NewSource(95))
	kinds := map[string]int{}
	check := func(a, b int) {
		t.Helper()
		if min(a, b) < 0 || max(a, b) > most {
			return
		}
		x, y, e := move(a, b)
		if v, w, f := seed.Move(a, b); v != x || w != y || e != f {
			t.Fatal(a, b, v, w, f, x, y, e)
		}
		if e == api.OK && !isLost(a-x, b-y) {
			t.Fatal(a, b, x, y)
		}
		switch {
		case e != api.OK:
			kinds["none"]++
		case x == 0:
			kinds["second"]++
		case y == 0:
			kinds["first"]++
		default:
			kinds["both"]++
		}
	}
	for range 300 {
		a, b := anyNumber(r), anyNumber(r)
		check(a, b)
		check(a, a+r.Intn(10))
		low, high := pair(r.Intn(min(lastPair, 1<<r.Intn(60)) + 1))
		a, b = int(low.Int64()), int(high.Int64())
		by := 1 + r.Intn(1<<r.Intn(58))
		for _, c := range [][2]int{{a, b}, {a + by, b}, {a, b + by}, {a + by, b + by}, {a - by, b}, {a, b - by}} {
			check(c[0], c[1])
			check(c[1], c[0])
		}
	}
	for kind, count := range map[string]int{"none": 500, "first": 500, "second": 500, "both": 200} {
		if kinds[kind] < count {
			t.Error(kind, kinds[kind])
		}
	}
	for _, c := range [][2]int{{most, most}, {most, 0}, {0, most}, {most, most - 1}, {most - 1, most}, {most, 1}, {1, most}} {
		check(c[0], c[1])
	}
}

// TestTake plays out all games: of n seeds one wins if one can take so that the next one loses.
func TestTake(t *testing.T) {
	const size = 150
	var least [size][2*size + 1]int // by how many there are, and how many may be taken; 0: none
	for n := range size {
		for may := 1; may <= 2*size; may++ {
			for take := 1; take <= min(n, may) && least[n][may] == 0; take++ {
				if least[n-take][min(2*take, 2*size)] == 0 {
					least[n][may] = take
				}
			}
			want := api.OK
			if least[n][may] == 0 {
				want = api.ErrPlan
			}
			if got, e := seed.Take(n, may); got != least[n][may] || e != want {
				t.Fatal(n, may, got, e, least[n][may])
			}
		}
	}
}

// TestTakeTheLeastPart is P9.11.
func TestTakeTheLeastPart(t *testing.T) {
	for _, n := range large() {
		if n == 0 {
			continue
		}
		list := ones(word(n))
		part := small(list[len(list)-1])
		for _, may := range []int{1, 2, part - 1, part, part + 1, n - 1, n, most, most + 1, math.MaxInt - 1, math.MaxInt} {
			got, e := seed.Take(n, may)
			switch {
			case may < 1:
				if got != 0 || e != api.ErrArg {
					t.Fatal(n, may, got, e)
				}
			case may < part:
				if got != 0 || e != api.ErrPlan {
					t.Fatal(n, may, got, e)
				}
			case got != part || e != api.OK:
				t.Fatal(n, may, got, e, part)
			}
		}
	}
}

func TestTakeOfNothing(t *testing.T) {
	for _, may := range []int{0, -1, -most, math.MinInt, math.MinInt + 1} {
		for _, n := range []int{0, 1, 5, most} {
			if got, e := seed.Take(n, may); got != 0 || e != api.ErrArg {
				t.Error(n, may, got, e)
			}
		}
	}
	for _, may := range []int{1, 2, most, math.MaxInt} {
		if got, e := seed.Take(0, may); got != 0 || e != api.ErrPlan {
			t.Error(may, got, e)
		}
	}
}
