package share_test

import (
	"math/rand"
	"reflect"
	"slices"
	"testing"

	"dibber/api"
	"dibber/share"
)

// came is what Greedy should return: each pays by who stands before them in the order.
func came(cost, order []int) []int {
	out := make([]int, len(order))
	for i, gardener := range order {
		out[gardener] = cost[group(order[:i+1]...)] - cost[group(order[:i]...)]
	}
	return out
}

func compareCorners(t *testing.T, n int, cost []int) {
	t.Helper()
	var want [][]int
	for _, order := range orders(n) {
		got, e := share.Greedy(n, cost, order)
		if !slices.Equal(got, came(cost, order)) || e != api.OK {
			t.Fatal(cost, order, got, e)
		}
		if !slices.ContainsFunc(want, func(l []int) bool { return slices.Equal(l, got) }) {
			want = append(want, got)
		}
	}
	slices.SortFunc(want, slices.Compare[[]int])
	if got, e := share.Corners(n, cost); !reflect.DeepEqual(got, want) || e != api.OK {
		t.Fatal(cost, got, want, e)
	}
}

func TestGreedyAndCorners(t *testing.T) {
	for _, cost := range few() {
		compareCorners(t, len(members(len(cost)-1)), cost)
	}
	r := rand.New(rand.NewSource(5))
	for range 20 {
		n := 3 + r.Intn(3)
		compareCorners(t, n, randomCost(r, n, 1+r.Intn(20)))
	}
	compareCorners(t, 6, randomCost(r, 6, 20))
}

func TestHowManyCorners(t *testing.T) {
	product := 1
	for n := 1; n <= api.MaxMembers; n++ {
		product *= n
		strict := make([]int, 1<<n)
		for g := range strict {
			for _, m := range members(g) {
				strict[g] += 1 << (2 * m)
			}
			strict[g] = 5000*len(members(g)) - strict[g]*strict[g]/1000 - len(members(g))*len(members(g))
		}
		if got, e := share.Corners(n, strict); len(got) != product || e != api.OK {
			t.Error(n, len(got), e)
		}
		weights := []int{3, -1, 0, 7, -4, 2}[:n]
		if got, e := share.Corners(n, modular(weights)); !reflect.DeepEqual(got, [][]int{weights}) || e != api.OK {
			t.Error(n, got, e)
		}
		one := bent([]int{1, 1, 1, 1, 1, 1}[:n], 1)
		if got, e := share.Corners(n, one); len(got) != n || e != api.OK {
			t.Error(n, got, e)
		}
	}
}

func TestGreedyOfWrongOrders(t *testing.T) {
	for n := 1; n <= api.MaxMembers; n++ {
		good := make([]int, n)
		for i := range good {
			good[i] = i
		}
		wrong := [][]int{nil, {}, good[:n-1], append(slices.Clone(good), n), append(slices.Clone(good), 0), make([]int, 100)}
		for i := range n {
			for _, gardener := range append(extremes(), -1, n, 64, 63, (i+1)%n) {
				list := slices.Clone(good)
				list[i] = gardener
				if gardener != i {
					wrong = append(wrong, list)
				}
			}
		}
		for _, order := range wrong {
			if got, e := share.Greedy(n, make([]int, 1<<n), order); len(got) != 0 || e != api.ErrArg {
				t.Error(n, order, got, e)
			}
		}
	}
}

func compareFair(t *testing.T, n int, cost, sharing []int) {
	t.Helper()
	g, is, e := share.Fair(n, cost, sharing)
	want := len(cost) - 1
	for other := range cost {
		if pays(sharing, other) > cost[other] {
			want = other
			break
		}
	}
	if g != want || is != fair(cost, sharing) || e != api.OK {
		t.Fatal(cost, sharing, g, is, e, want)
	}
}

func TestFair(t *testing.T) {
	smallCosts(1, -3, 3, func(cost []int) {
		lists(1, -4, 4, func(sharing []int) { compareFair(t, 1, cost, sharing) })
	})
	smallCosts(2, -2, 2, func(cost []int) {
		lists(2, -4, 4, func(sharing []int) { compareFair(t, 2, cost, sharing) })
	})
	r := rand.New(rand.NewSource(6))
	corners := 0
	for range 2000 {
		n := 3 + r.Intn(4)
		cost := randomList(r, 1<<n, -3, 9)
		cost[0] = 0
		if r.Intn(2) == 0 {
			cost = randomCost(r, n, 9)
		}
		sharing := randomList(r, n, -9, 3)
		compareFair(t, n, cost, sharing)
		if submodular(cost) {
			sharing = came(cost, r.Perm(n))
			corners++
		}
		compareFair(t, n, cost, sharing)
		sharing[r.Intn(n)] += r.Intn(5) - 2
		compareFair(t, n, cost, sharing)
	}
	if corners < 500 {
		t.Error(corners)
	}
}

func TestFairAtTheLimits(t *testing.T) {
	end := most * api.MaxMembers
	for n := 1; n <= api.MaxMembers; n++ {
		for _, paid := range []int{end, -end, most, -most, most + 1, -most - 1} {
			sharing := make([]int, n)
			for i := range sharing {
				sharing[i] = paid
			}
			cost := make([]int, 1<<n)
			for g := 1; g < 1<<n; g++ {
				cost[g] = most
			}
			compareFair(t, n, cost, sharing)
			if sum, is, e := share.Proves(n, cost, sharing); sum != 0 || is != fair(cost, sharing) || e != api.OK {
				t.Error(n, paid, sum, is, e)
			}
		}
	}
	if g, is, e := share.Fair(2, []int{0, 0, 0, 0}, []int{end, -end}); g != 1 || is || e != api.OK {
		t.Error(g, is, e)
	}
	if g, is, e := share.Fair(2, []int{0, 0, 0, 0}, []int{-end, end}); g != 2 || is || e != api.OK {
		t.Error(g, is, e)
	}
}

func TestWrongSharings(t *testing.T) {
	end := most * api.MaxMembers
	for n := 1; n <= api.MaxMembers; n++ {
		wrong := [][]int{nil, {}, make([]int, n-1), make([]int, n+1), make([]int, 1000)}
		for i := range n {
			for _, paid := range append(extremes(), end+1, -end-1) {
				sharing := make([]int, n)
				sharing[i] = paid
				wrong = append(wrong, sharing)
			}
		}
		for _, sharing := range wrong {
			if g, is, e := share.Fair(n, make([]int, 1<<n), sharing); g != 0 || is || e != api.ErrArg {
				t.Error(n, sharing, g, is, e)
			}
			if sum, is, e := share.Proves(n, make([]int, 1<<n), sharing); sum != 0 || is || e != api.ErrArg {
				t.Error(n, sharing, sum, is, e)
			}
		}
	}
}

// TestGreedyIsFair is P8.8.
func TestGreedyIsFair(t *testing.T) {
	r := rand.New(rand.NewSource(7))
	for range 60 {
		n := 1 + r.Intn(4)
		cost := randomCost(r, n, 4)
		last := map[int]int{}
		for _, order := range orders(n) {
			sharing, _ := share.Greedy(n, cost, order)
			if _, is, e := share.Fair(n, cost, sharing); !is || e != api.OK {
				t.Fatal(cost, order, sharing, e)
			}
			end := order[n-1]
			paid, seen := last[end]
			if seen && paid != sharing[end] {
				t.Fatal(cost, order, sharing, paid)
			}
			last[end] = sharing[end]
		}
	}
}

// TestFairSharingsLieBetweenTheCorners is P8.8, too.
func TestFairSharingsLieBetweenTheCorners(t *testing.T) {
	for _, cost := range few() {
		n := len(members(len(cost) - 1))
		corners, _ := share.Corners(n, cost)
		low, high := slices.Clone(corners[0]), slices.Clone(corners[0])
		for _, corner := range corners {
			for i, paid := range corner {
				low[i], high[i] = min(low[i], paid), max(high[i], paid)
			}
		}
		for _, sharing := range fairOnes(n, cost) {
			for i, paid := range sharing {
				if paid < low[i] || paid > high[i] {
					t.Fatal(cost, sharing, low, high)
				}
			}
		}
	}
}
