package share_test

import (
	"math/rand"
	"reflect"
	"slices"
	"testing"

	"dibber/api"
	"dibber/share"
)

func TestExamplesOfTheChapter(t *testing.T) {
	pair, gain := []int{0, 3, 4, 5}, []int{0, -2, 1, -3}
	if a, b, e := share.Check(2, pair); a != 0 || b != 0 || e != api.ErrPlan {
		t.Error(a, b, e)
	}
	for _, c := range []struct{ order, want []int }{{[]int{0, 1}, []int{3, 2}}, {[]int{1, 0}, []int{1, 4}}} {
		if got, e := share.Greedy(2, pair, c.order); !slices.Equal(got, c.want) || e != api.OK {
			t.Error(c, got, e)
		}
	}
	if g, is, e := share.Fair(2, pair, []int{2, 3}); g != 3 || !is || e != api.OK {
		t.Error(g, is, e)
	}
	if price, small, large, e := share.Least(2, gain); price != -3 || small != 3 || large != 3 || e != api.OK {
		t.Error(price, small, large, e)
	}
	if got, e := share.Proof(2, gain); !slices.Equal(got, []int{-3, 0}) || e != api.OK {
		t.Error(got, e)
	}
}

func compareCheck(t *testing.T, n int, cost []int) {
	t.Helper()
	a, b, e := share.Check(n, cost)
	x, y, f := broken(cost)
	if a != x || b != y || e != f {
		t.Fatal(cost, a, b, e, x, y, f)
	}
}

func TestCheckOfSmallCosts(t *testing.T) {
	smallCosts(1, -3, 3, func(cost []int) { compareCheck(t, 1, cost) })
	smallCosts(2, -3, 3, func(cost []int) { compareCheck(t, 2, cost) })
	smallCosts(3, -1, 1, func(cost []int) { compareCheck(t, 3, cost) })
}

func TestCheckOfCostsWithOneNumberChanged(t *testing.T) {
	r := rand.New(rand.NewSource(1))
	found := 0
	for range 400 {
		n := 3 + r.Intn(4)
		cost := randomCost(r, n, 1+r.Intn(50))
		compareCheck(t, n, cost)
		cost[1+r.Intn(1<<n-1)] += r.Intn(41) - 20
		compareCheck(t, n, cost)
		if !submodular(cost) {
			found++
		}
	}
	if found < 100 || found > 390 {
		t.Error(found)
	}
}

func TestCheckFindsTheLastPair(t *testing.T) {
	for n := 2; n <= api.MaxMembers; n++ {
		all := 1<<n - 1
		cost := make([]int, 1<<n)
		for g := range cost {
			size := len(members(g))
			cost[g] = size * (2*n - size) // who comes adds 2 less than who came before, so there is room for 2 more
		}
		cost[all] += 2
		if _, _, e := share.Check(n, cost); e != api.ErrPlan {
			t.Error(n, e)
		}
		cost[all]++
		a, b, e := share.Check(n, cost)
		if a != all-1<<(n-1) || b != all-1<<(n-2) || e != api.OK {
			t.Error(n, a, b, e)
		}
		compareCheck(t, n, cost)
	}
}

func TestCheckAtTheLimits(t *testing.T) {
	for n := 1; n <= api.MaxMembers; n++ {
		for _, number := range []int{most, -most} {
			cost := make([]int, 1<<n)
			for g := 1; g < 1<<n; g++ {
				cost[g] = number
			}
			compareCheck(t, n, cost)
			cost[1<<n-1] = -number
			compareCheck(t, n, cost)
		}
	}
}

func TestSum(t *testing.T) {
	r := rand.New(rand.NewSource(2))
	for range 200 {
		n := 1 + r.Intn(6)
		a, b := randomList(r, 1<<n, -most, most), randomList(r, 1<<n, -most, most)
		a[0], b[0] = 0, 0
		want, wrong := make([]int, 1<<n), false
		if r.Intn(2) == 0 {
			for g := range a {
				a[g] /= 2
				b[g] /= 2
			}
		}
		for g := range want {
			want[g] = a[g] + b[g]
			wrong = wrong || want[g] < -most || want[g] > most
		}
		got, e := share.Sum(n, a, b)
		if wrong && (len(got) != 0 || e != api.ErrRange) || !wrong && (!slices.Equal(got, want) || e != api.OK) {
			t.Fatal(a, b, got, e)
		}
	}
}

func TestSumAtTheLimits(t *testing.T) {
	for _, c := range []struct {
		a, b int
		e    api.Errno
	}{
		{most, 0, api.OK}, {0, most, api.OK}, {most, -most, api.OK}, {-most, 0, api.OK}, {most - 1, 1, api.OK},
		{1 - most, -1, api.OK}, {most, 1, api.ErrRange}, {1, most, api.ErrRange}, {-most, -1, api.ErrRange},
		{most, most, api.ErrRange}, {-most, -most, api.ErrRange},
	} {
		for g := 1; g < 4; g++ {
			a, b := make([]int, 4), make([]int, 4)
			a[g], b[g] = c.a, c.b
			got, e := share.Sum(2, a, b)
			if e != c.e || e == api.OK && got[g] != c.a+c.b || e != api.OK && len(got) != 0 {
				t.Error(c, g, got, e)
			}
		}
	}
}

func TestSumOfWrongCosts(t *testing.T) {
	good := []int{0, most, most, most}
	for _, wrong := range wrongCosts(2) {
		for _, c := range [][2][]int{{wrong, good}, {good, wrong}, {wrong, wrong}} {
			if got, e := share.Sum(2, c[0], c[1]); len(got) != 0 || e != api.ErrArg {
				t.Error(c, got, e)
			}
		}
	}
}

func TestCut(t *testing.T) {
	for n := 1; n <= api.MaxMembers; n++ {
		for _, none := range [][][]int{nil, {}} {
			if got, e := share.Cut(n, none); !slices.Equal(got, make([]int, 1<<n)) || e != api.OK {
				t.Error(n, got, e)
			}
		}
	}
	r := rand.New(rand.NewSource(3))
	for range 200 {
		n := 2 + r.Intn(5)
		hedges := randomHedges(r, n, r.Intn(api.MaxHedges+1), api.MaxHedge)
		if got, e := share.Cut(n, hedges); !slices.Equal(got, cut(n, hedges)) || e != api.OK {
			t.Fatal(n, hedges, got, e)
		}
	}
}

func TestCutWithTheMostHedges(t *testing.T) {
	var hedges [][]int
	for i := range api.MaxHedges {
		hedges = append(hedges, []int{i % 2, 1 - i%2, api.MaxHedge})
	}
	got, e := share.Cut(2, hedges)
	if !slices.Equal(got, []int{0, 20000, 20000, 0}) || e != api.OK {
		t.Error(got, e)
	}
	hedges = append(hedges, []int{0, 1, 0})
	if got, e := share.Cut(2, hedges); len(got) != 0 || e != api.ErrLimit {
		t.Error(got, e)
	}
	hedges[0] = nil
	if _, e := share.Cut(2, hedges); e != api.ErrLimit {
		t.Error(e)
	}
	for _, n := range wrongCounts() {
		if got, e := share.Cut(n, hedges); len(got) != 0 || e != api.ErrArg {
			t.Error(n, got, e)
		}
		if _, e := share.Cut(n, nil); e != api.ErrArg {
			t.Error(n, e)
		}
	}
}

func TestCutOfWrongHedges(t *testing.T) {
	for n := 1; n <= api.MaxMembers; n++ {
		wrong := [][]int{nil, {}, {0}, {0, n - 1}, {0, n - 1, 1, 1}, {0, 0, 1}, {n - 1, n - 1, 0}}
		for _, gardener := range append(extremes(), -1, n, n+1, 64) {
			wrong = append(wrong, []int{gardener, 0, 1}, []int{0, gardener, 1})
		}
		for _, price := range append(extremes(), -1, api.MaxHedge+1) {
			wrong = append(wrong, []int{0, n - 1, price})
		}
		for _, hedge := range wrong {
			for _, hedges := range [][][]int{{hedge}, {{0, 1, 1}, hedge}, {hedge, {0, 1, 1}}} {
				if got, e := share.Cut(n, hedges); len(got) != 0 || e != api.ErrArg {
					t.Error(n, hedges, got, e)
				}
			}
		}
	}
}

func TestWrongCountsAndCosts(t *testing.T) {
	for _, n := range wrongCounts() {
		for _, cost := range [][]int{nil, {0}, {0, 1}, make([]int, 64), make([]int, 128)} {
			for name, e := range calls(n, cost) {
				if e != api.ErrArg {
					t.Error(name, n, len(cost), e)
				}
			}
		}
	}
	for n := 1; n <= api.MaxMembers; n++ {
		for _, cost := range wrongCosts(n) {
			for name, e := range calls(n, cost) {
				if e != api.ErrArg {
					t.Error(name, n, cost, e)
				}
			}
		}
	}
}

func TestCostsThatAreNotSubmodular(t *testing.T) {
	for n := 2; n <= api.MaxMembers; n++ {
		for name, e := range calls(n, bulging(n)) {
			want := api.ErrForm
			if slices.Contains([]string{"Check", "Fills", "Sum", "Fair"}, name) {
				want = api.OK
			}
			if e != want {
				t.Error(name, n, e)
			}
		}
	}
	smallCosts(2, -2, 2, func(cost []int) {
		for name, e := range calls(2, cost) {
			if !slices.Contains([]string{"Check", "Fills", "Sum", "Fair"}, name) && (e == api.OK) != submodular(cost) {
				t.Error(name, cost, e)
			}
		}
	})
}

// TestErrorsInTheirOrder has all other arguments wrong, too.
func TestErrorsInTheirOrder(t *testing.T) {
	short, good, bad := []int{0}, []int{0, 1, 1, 1}, bulging(2)
	for _, other := range [][]int{nil, {0}, {-1, -1}, {0, 2}, {0, 1, 2}} {
		for _, c := range []struct {
			cost       []int
			form, free api.Errno
		}{{short, api.ErrArg, api.ErrArg}, {bad, api.ErrForm, api.ErrArg}, {good, api.ErrArg, api.ErrArg}} {
			if got, e := share.Greedy(2, c.cost, other); len(got) != 0 || e != c.form {
				t.Error("Greedy", c, other, got, e)
			}
			if got, sum, e := share.Dearest(2, c.cost, other); (e != c.form || len(got) != 0 || sum != 0) && !slices.Equal(other, []int{0, 2}) {
				t.Error("Dearest", c, other, got, sum, e)
			}
			if got, e := share.Fills(2, c.cost, other); (got != 0 || e != c.free) && !slices.Equal(other, []int{0, 2}) {
				t.Error("Fills", c, other, got, e)
			}
			if len(other) == 2 {
				continue
			}
			if sum, is, e := share.Proves(2, c.cost, other); sum != 0 || is || e != c.form {
				t.Error("Proves", c, other, sum, is, e)
			}
			if g, is, e := share.Fair(2, c.cost, other); g != 0 || is || e != c.free {
				t.Error("Fair", c, other, g, is, e)
			}
		}
	}
}

func TestErrorsLeaveZeros(t *testing.T) {
	for _, cost := range [][]int{{0, 0}, bulging(2)} {
		zeros := []int{0, 0}
		if a, b, e := share.Check(2, cost); e != api.OK && (a != 0 || b != 0) {
			t.Error(a, b, e)
		}
		if price, small, large, e := share.Least(2, cost); price != 0 || small != 0 || large != 0 || e == api.OK {
			t.Error(price, small, large, e)
		}
		if got, e := share.Proof(2, cost); len(got) != 0 || e == api.OK {
			t.Error(got, e)
		}
		if got, e := share.Corners(2, cost); len(got) != 0 || e == api.OK {
			t.Error(got, e)
		}
		if sum, is, e := share.Proves(2, cost, zeros); sum != 0 || is || e == api.OK {
			t.Error(sum, is, e)
		}
	}
}

// everything calls all functions and keeps their results.
func everything(n int, cost, order, sharing, weights []int, hedges [][]int) []any {
	var out []any
	keep := func(results ...any) { out = append(out, results...) }
	keep(first3(share.Check(n, cost)))
	keep(first2(share.Greedy(n, cost, order)))
	keep(first3(share.Fair(n, cost, sharing)))
	price, small, large, e := share.Least(n, cost)
	keep(price, small, large, e)
	keep(first2(share.Proof(n, cost)))
	keep(first3(share.Proves(n, cost, sharing)))
	keep(first2(share.Fills(n, cost, weights)))
	keep(first2(share.Corners(n, cost)))
	keep(first3(share.Dearest(n, cost, weights)))
	keep(first2(share.Cut(n, hedges)))
	keep(first2(share.Sum(n, cost, cost)))
	return out
}

func first2[A, B any](a A, b B) []any { return []any{a, b} }

func first3[A, B, C any](a A, b B, c C) []any { return []any{a, b, c} }

func TestArgumentsStayAndResultsAreTheSame(t *testing.T) {
	r := rand.New(rand.NewSource(4))
	for range 30 {
		n := 1 + r.Intn(5)
		cost, order, weights := randomCost(r, n, 9), r.Perm(n), randomList(r, n, 0, 9)
		sharing, hedges := randomList(r, n, -9, 9), randomHedges(r, n, 5, 9)
		was := copies([][]int{cost, order, weights, sharing})
		wasHedges := copies(hedges)
		one := everything(n, cost, order, sharing, weights, hedges)
		if !reflect.DeepEqual(was, [][]int{cost, order, weights, sharing}) || !reflect.DeepEqual(wasHedges, hedges) && len(hedges) > 0 {
			t.Fatal("an argument was changed")
		}
		if two := everything(n, cost, order, sharing, weights, hedges); !reflect.DeepEqual(one, two) {
			t.Fatal(one, two)
		}
	}
}

func TestResultsAreNewMemory(t *testing.T) {
	cost, order, weights := []int{0, 3, 4, 5}, []int{0, 1}, []int{2, 1}
	smear := func(list []int, e api.Errno) {
		for i := range list[:cap(list)] {
			list[:cap(list)][i] = 77
		}
	}
	for range 2 {
		smear(share.Greedy(2, cost, order))
		smear(share.Proof(2, cost))
		smear(share.Sum(2, cost, []int{0, 0, 0, 0}))
		smear(share.Sum(2, []int{0, 0, 0, 0}, cost))
		smear(share.Cut(2, [][]int{{0, 1, 3}}))
		list, _, e := share.Dearest(2, cost, weights)
		smear(list, e)
		corners, _ := share.Corners(2, cost)
		smear(corners[0], api.OK)
		if !slices.Equal(corners[1], []int{3, 2}) {
			t.Error(corners)
		}
	}
	if !slices.Equal(cost, []int{0, 3, 4, 5}) || !slices.Equal(order, []int{0, 1}) || !slices.Equal(weights, []int{2, 1}) {
		t.Error(cost, order, weights)
	}
	if got, _ := share.Corners(2, cost); !reflect.DeepEqual(got, [][]int{{1, 4}, {3, 2}}) {
		t.Error(got)
	}
}
