package share_test

import (
	"math/rand"
	"slices"
	"testing"

	"dibber/api"
	"dibber/share"
)

// filled is the sum over the levels, as the chapter says it.
func filled(cost, weights []int) int {
	sum := 0
	for level := 1; level <= slices.Max(weights); level++ {
		var who []int
		for i, w := range weights {
			if w >= level {
				who = append(who, i)
			}
		}
		sum += cost[group(who...)]
	}
	return sum
}

func TestFills(t *testing.T) {
	smallCosts(2, -2, 2, func(cost []int) {
		lists(2, 0, 3, func(weights []int) {
			if got, e := share.Fills(2, cost, weights); got != filled(cost, weights) || e != api.OK {
				t.Fatal(cost, weights, got, e)
			}
		})
	})
	r := rand.New(rand.NewSource(11))
	for range 200 {
		n := 1 + r.Intn(6)
		cost := randomList(r, 1<<n, -most, most)
		cost[0] = 0
		weights := randomList(r, n, 0, r.Intn(api.MaxWeight+1))
		if got, e := share.Fills(n, cost, weights); got != filled(cost, weights) || e != api.OK {
			t.Fatal(cost, weights, got, e)
		}
	}
}

func TestWeightsAtTheLimits(t *testing.T) {
	for n := 1; n <= api.MaxMembers; n++ {
		for _, cost := range steep(n) {
			all := cost[len(cost)-1]
			for _, weight := range []int{0, 1, api.MaxWeight} {
				weights := slices.Repeat([]int{weight}, n)
				if got, e := share.Fills(n, cost, weights); got != weight*all || e != api.OK {
					t.Error(n, weight, got, e)
				}
				checkDearest(t, n, cost, weights)
			}
			for i := range n {
				weights := make([]int, n)
				weights[i] = api.MaxWeight
				if got, e := share.Fills(n, cost, weights); got != api.MaxWeight*cost[1<<i] || e != api.OK {
					t.Error(n, weights, got, e)
				}
				checkDearest(t, n, cost, weights)
			}
		}
	}
}

func TestWrongWeights(t *testing.T) {
	for n := 1; n <= api.MaxMembers; n++ {
		wrong := [][]int{nil, {}, make([]int, n-1), make([]int, n+1), make([]int, 1000)}
		for i := range n {
			for _, weight := range append(extremes(), -1, api.MaxWeight+1) {
				weights := make([]int, n)
				weights[i] = weight
				wrong = append(wrong, weights)
			}
		}
		for _, weights := range wrong {
			if got, e := share.Fills(n, make([]int, 1<<n), weights); got != 0 || e != api.ErrArg {
				t.Error(n, weights, got, e)
			}
			if got, sum, e := share.Dearest(n, make([]int, 1<<n), weights); len(got) != 0 || sum != 0 || e != api.ErrArg {
				t.Error(n, weights, got, sum, e)
			}
		}
	}
}

// firstDearest looks at all fair sharings.
func firstDearest(n int, cost, weights []int) []int {
	var out []int
	for _, sharing := range fairOnes(n, cost) {
		if out == nil || weighted(sharing, weights) > weighted(out, weights) {
			out = sharing
		}
	}
	return out
}

func TestDearestIsTheFirstOfAll(t *testing.T) {
	r := rand.New(rand.NewSource(12))
	compare := func(n int, cost, weights []int) {
		want := firstDearest(n, cost, weights)
		got, sum, e := share.Dearest(n, cost, weights)
		if !slices.Equal(got, want) || sum != weighted(want, weights) || e != api.OK {
			t.Fatal(cost, weights, got, sum, e, want)
		}
	}
	for _, cost := range few() {
		n := len(members(len(cost) - 1))
		for range 3 {
			compare(n, cost, randomList(r, n, 0, 2))
		}
	}
	for range 60 {
		compare(4, randomCost(r, 4, 1), randomList(r, 4, 0, 2))
	}
}

func checkDearest(t *testing.T, n int, cost, weights []int) {
	t.Helper()
	got, sum, e := share.Dearest(n, cost, weights)
	if e != api.OK || len(got) != n || !fair(cost, got) || sum != weighted(got, weights) {
		t.Fatal(cost, weights, got, sum, e)
	}
	if lessens(got, func(other []int) bool { return fair(cost, other) && weighted(other, weights) >= sum }) {
		t.Fatal(cost, weights, got, sum)
	}
	if fills, e := share.Fills(n, cost, weights); fills != sum || e != api.OK { // P8.11
		t.Fatal(cost, weights, got, sum, fills, e)
	}
}

// TestDearestIsACorner compares with the corners, as one of the greatest sharings is always one, and the first one, too.
func TestDearestIsACorner(t *testing.T) {
	r := rand.New(rand.NewSource(13))
	for range 150 {
		n := 1 + r.Intn(6)
		cost, weights := randomCost(r, n, 1+r.Intn(20)), randomList(r, n, 0, 1+r.Intn(4))
		checkDearest(t, n, cost, weights)
		corners, _ := share.Corners(n, cost)
		want := corners[0]
		for _, corner := range corners {
			if weighted(corner, weights) > weighted(want, weights) {
				want = corner
			}
		}
		if got, _, _ := share.Dearest(n, cost, weights); !slices.Equal(got, want) {
			t.Fatal(cost, weights, got, want)
		}
	}
}

// TestFillsOfGroupsAndSums is P8.11.
func TestFillsOfGroupsAndSums(t *testing.T) {
	r := rand.New(rand.NewSource(14))
	for range 100 {
		n := 1 + r.Intn(6)
		cost := randomCost(r, n, 1+r.Intn(20))
		for g := range cost {
			weights := make([]int, n)
			for _, m := range members(g) {
				weights[m] = 1
			}
			if got, e := share.Fills(n, cost, weights); got != cost[g] || e != api.OK {
				t.Fatal(cost, weights, got, e)
			}
		}
		a, b := randomList(r, n, 0, 9), randomList(r, n, 0, 9)
		together := slices.Clone(a)
		for i := range together {
			together[i] += b[i]
		}
		x, _ := share.Fills(n, cost, a)
		y, _ := share.Fills(n, cost, b)
		if z, e := share.Fills(n, cost, together); z > x+y || e != api.OK {
			t.Fatal(cost, a, b, x, y, z, e)
		}
	}
}

// TestCutsAndSumsAreSubmodular is P8.12.
func TestCutsAndSumsAreSubmodular(t *testing.T) {
	r := rand.New(rand.NewSource(15))
	for range 100 {
		n := 2 + r.Intn(5)
		hedges, _ := share.Cut(n, randomHedges(r, n, r.Intn(api.MaxHedges+1), api.MaxHedge))
		if _, _, e := share.Check(n, hedges); e != api.ErrPlan {
			t.Fatal(hedges, e)
		}
		all := 1<<n - 1
		for g := range hedges {
			if hedges[g] != hedges[all-g] || hedges[all] != 0 {
				t.Fatal(hedges)
			}
		}
		sum, e := share.Sum(n, hedges, randomCost(r, n, 50))
		if e != api.OK {
			t.Fatal(e)
		}
		if _, _, e := share.Check(n, sum); e != api.ErrPlan {
			t.Fatal(sum, e)
		}
	}
}
