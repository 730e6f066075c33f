package share_test

import (
	"math/rand"
	"slices"
	"testing"

	"dibber/api"
	"dibber/share"
)

func compareLeast(t *testing.T, n int, cost []int) {
	t.Helper()
	price := slices.Min(cost)
	small, large := len(cost)-1, 0
	for g := range cost {
		if cost[g] == price {
			small, large = both(small, g), either(large, g)
		}
	}
	p, s, l, e := share.Least(n, cost)
	if p != price || s != small || l != large || e != api.OK {
		t.Fatal(cost, p, s, l, e)
	}
	if cost[s] != p || cost[l] != p { // P8.10
		t.Fatal(cost, p, s, l)
	}
}

func TestLeast(t *testing.T) {
	for _, cost := range few() {
		compareLeast(t, len(members(len(cost)-1)), cost)
	}
	r := rand.New(rand.NewSource(8))
	several := 0
	for range 400 {
		n := 1 + r.Intn(6)
		cost := randomCost(r, n, 1+r.Intn(9))
		compareLeast(t, n, cost)
		_, small, large, _ := share.Least(n, cost)
		if small != large {
			several++
		}
	}
	if several < 50 {
		t.Error(several)
	}
	for n := 1; n <= api.MaxMembers; n++ {
		all := 1<<n - 1
		for _, c := range []struct{ each, price, small, large int }{{0, 0, 0, all}, {1, 0, 0, 0}, {-1, -n, all, all}} {
			p, s, l, e := share.Least(n, modular(slices.Repeat([]int{c.each}, n)))
			if p != c.price || s != c.small || l != c.large || e != api.OK {
				t.Error(n, c, p, s, l, e)
			}
		}
	}
}

// TestLeastGroupsTogether is P8.10.
func TestLeastGroupsTogether(t *testing.T) {
	for _, cost := range few() {
		n := len(members(len(cost) - 1))
		price, _, _, _ := share.Least(n, cost)
		for a := range cost {
			for b := range cost {
				if cost[a] == price && cost[b] == price && (cost[either(a, b)] != price || cost[both(a, b)] != price) {
					t.Fatal(cost, a, b)
				}
			}
		}
	}
}

// firstProof looks at all fair sharings.
func firstProof(n int, cost []int) []int {
	for _, sharing := range fairOnes(n, cost) {
		if below(sharing) == slices.Min(cost) {
			return sharing
		}
	}
	return nil
}

func TestProofIsTheFirstOfAll(t *testing.T) {
	for _, cost := range few() {
		n := len(members(len(cost) - 1))
		if got, e := share.Proof(n, cost); !slices.Equal(got, firstProof(n, cost)) || e != api.OK {
			t.Fatal(cost, got, firstProof(n, cost), e)
		}
	}
	r := rand.New(rand.NewSource(9))
	for range 60 {
		cost := randomCost(r, 4, 1)
		if got, e := share.Proof(4, cost); !slices.Equal(got, firstProof(4, cost)) || e != api.OK {
			t.Fatal(cost, got, firstProof(4, cost), e)
		}
	}
}

// lessens tells whether somebody can pay one less and somebody after them one more, so that the sharing stays good: if
// nobody can, no good sharing comes before it, as fair sharings, also within bounds, can always be changed step by step.
func lessens(sharing []int, good func([]int) bool) bool {
	for i := range sharing {
		for j := i + 1; j < len(sharing); j++ {
			other := slices.Clone(sharing)
			other[i]--
			other[j]++
			if good(other) {
				return true
			}
		}
	}
	return false
}

func checkProof(t *testing.T, n int, cost []int) {
	t.Helper()
	price := slices.Min(cost)
	good := func(sharing []int) bool { return fair(cost, sharing) && below(sharing) == price }
	got, e := share.Proof(n, cost)
	if e != api.OK || len(got) != n || !good(got) || lessens(got, good) {
		t.Fatal(cost, got, e)
	}
	if sum, is, e := share.Proves(n, cost, got); sum != price || !is || e != api.OK { // P8.9
		t.Fatal(cost, got, sum, is, e)
	}
}

func TestProofOfManyGardeners(t *testing.T) {
	r := rand.New(rand.NewSource(10))
	for range 600 {
		n := 1 + r.Intn(6)
		checkProof(t, n, randomCost(r, n, 1+r.Intn(40)))
	}
}

// steep are submodular costs with numbers at the limits.
func steep(n int) [][]int {
	flat := make([]int, 1<<n)
	for g := 1; g < 1<<n; g++ {
		flat[g] = most
	}
	drop := slices.Clone(flat)
	drop[1<<n-1] = -most
	each := slices.Repeat([]int{most / n}, n)
	fall := slices.Repeat([]int{-most / n}, n)
	deep := make([]int, 1<<n) // whoever comes first adds most, whoever comes last -most
	for g := range deep {
		k := len(members(g))
		deep[g] = k * (n - k) * most / 9
	}
	return [][]int{flat, drop, modular(each), modular(fall), deep}
}

func TestProofAndLeastAtTheLimits(t *testing.T) {
	for n := 1; n <= api.MaxMembers; n++ {
		for _, cost := range steep(n) {
			compareLeast(t, n, cost)
			checkProof(t, n, cost)
		}
	}
	drop := steep(2)[1]
	if got, e := share.Proof(2, drop); !slices.Equal(got, []int{-most, 0}) || e != api.OK {
		t.Error(got, e)
	}
	if sum, is, e := share.Proves(2, drop, []int{-2 * most, most}); sum != -2*most || !is || e != api.OK {
		t.Error(sum, is, e)
	}
	if sum, is, e := share.Proves(2, drop, []int{-2*most - 1, most + 1}); sum != 0 || is || e != api.OK {
		t.Error(sum, is, e)
	}
}

func TestProves(t *testing.T) {
	count := 0
	for _, cost := range few() {
		n := len(members(len(cost) - 1))
		if len(cost) == 8 && count%7 > 0 {
			count++
			continue
		}
		count++
		lists(n, -4, 4, func(sharing []int) {
			sum, is, e := share.Proves(n, cost, sharing)
			want := 0
			if fair(cost, sharing) {
				want = below(sharing)
			}
			if sum != want || is != fair(cost, sharing) || e != api.OK {
				t.Fatal(cost, sharing, sum, is, e)
			}
			if is && sum > slices.Min(cost) { // P8.9
				t.Fatal(cost, sharing, sum)
			}
		})
	}
}
