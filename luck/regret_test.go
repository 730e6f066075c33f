package luck_test

import (
	"math"
	"math/big"
	"math/bits"
	"math/rand"
	"slices"
	"testing"

	"dibber/api"
	"dibber/luck"
)

func TestWrongFolk(t *testing.T) {
	one := [][]int{{1}, {0}}
	for _, c := range []struct {
		k, folk int
		said    [][]int
	}{
		{0, 1, nil},
		{-1, 1, nil},
		{11, 1, slices.Repeat([][]int{{1}}, 11)},
		{math.MinInt, 1, one},
		{math.MaxInt, 1, one},
		{2, 0, [][]int{{}, {}}},
		{2, -1, one},
		{2, 21, slices.Repeat([][]int{make([]int, 21)}, 2)},
		{2, math.MinInt, one},
		{2, math.MaxInt, one},
		{2, 1, nil},
		{1, 1, one},
		{3, 1, one},
		{2, 2, one},
		{2, 1, [][]int{{1}, {0, 1}}},
		{2, 1, [][]int{{1}, nil}},
		{2, 1, [][]int{nil, {1}}},
		{2, 1, [][]int{{1}, {2}}},
		{2, 1, [][]int{{-1}, {1}}},
		{2, 2, [][]int{{1, 0}, {1, math.MinInt}}},
		{2, 2, [][]int{{math.MaxInt, 0}, {1, 0}}},
	} {
		if r, e := luck.Regret(c.k, c.folk, c.said); r != (api.Ratio{}) || e != api.ErrArg {
			t.Error(c, r, e)
		}
	}
}

func TestRegret(t *testing.T) {
	for _, c := range []struct {
		k, folk int
		said    [][]int
		want    api.Ratio
	}{
		{1, 1, [][]int{{0}}, api.Ratio{Num: 0, Den: 1}},
		{1, 2, [][]int{{0, 1}}, api.Ratio{Num: 1, Den: 2}},
		{1, 2, [][]int{{1, 1}}, api.Ratio{Num: 0, Den: 1}},
		{2, 1, [][]int{{0}, {1}}, api.Ratio{Num: 0, Den: 1}},
		{2, 2, [][]int{{0, 1}, {0, 1}}, api.Ratio{Num: 1, Den: 2}},
		{2, 2, [][]int{{0, 1}, {1, 1}}, api.Ratio{Num: 1, Den: 2}},
		{2, 3, [][]int{{0, 1, 1}, {0, 1, 0}}, api.Ratio{Num: 3, Den: 4}},
		{2, 4, [][]int{{0, 1, 1, 0}, {0, 1, 0, 1}}, api.Ratio{Num: 1, Den: 1}},
		{3, 2, [][]int{{0, 1}, {0, 1}, {0, 1}}, api.Ratio{Num: 3, Den: 4}},
		{10, 20, slices.Repeat([][]int{make([]int, 20)}, 10), api.Ratio{Num: 0, Den: 1}},
	} {
		if r, e := luck.Regret(c.k, c.folk, c.said); r != c.want || e != api.OK {
			t.Error(c, r, e)
		}
	}
}

func TestRegretOfSome(t *testing.T) {
	rng := rand.New(rand.NewSource(61))
	for range 400 {
		k, folk := 1+rng.Intn(5), 1+rng.Intn(20)
		said := someSaid(rng, k, folk)
		r, e := luck.Regret(k, folk, said)
		if r != ratio(regret(k, said)) || e != api.OK {
			t.Fatal(k, folk, said, r, e)
		}
		if 2*r.Num > k*r.Den || r.Num < 0 {
			t.Fatal(k, folk, said, r)
		}
		fewer := 1 + rng.Intn(folk)
		some := make([][]int, k)
		for i := range some {
			some[i] = said[i][folk-fewer:]
		}
		s, e := luck.Regret(k, fewer, some)
		if rational(s).Cmp(rational(r)) > 0 || e != api.OK {
			t.Fatal(k, folk, said, r, fewer, s, e)
		}
		if one, e := luck.Regret(k, 1, someSaid(rng, k, 1)); one != (api.Ratio{Num: 0, Den: 1}) || e != api.OK {
			t.Fatal(one, e)
		}
	}
	said := someSaid(rng, 10, 20)
	if r, e := luck.Regret(10, 20, said); r != ratio(regret(10, said)) || e != api.OK {
		t.Error(r, e)
	}
}

func TestRegretIsLeast(t *testing.T) {
	rng := rand.New(rand.NewSource(62))
	for range 300 {
		k, folk := 1+rng.Intn(6), 1+rng.Intn(6)
		said := someSaid(rng, k, folk)
		r, e := luck.Regret(k, folk, said)
		if e != api.OK {
			t.Fatal(k, folk, said, r, e)
		}
		// The whole sixtieths above the regret suffice, those below it do not.
		least := (60*r.Num + r.Den - 1) / r.Den
		for _, c := range []struct{ more, want int }{{least, 1}, {least - 1, 0}} {
			goal := likeTheBest(k, said, c.more)
			if slices.Min(goal) < 0 {
				continue
			}
			if n, e := luck.Can(k, goal); n != c.want || e != api.OK {
				t.Fatal(k, folk, said, r, c, n, e)
			}
		}
	}
}

func TestRegretOfTwo(t *testing.T) {
	rng := rand.New(rand.NewSource(63))
	for k := 1; k <= 10; k++ {
		// The mean distance of a walk of k steps, each to the one side or the other.
		sum := 0
		for walk := range 1 << k {
			place := k - 2*bits.OnesCount(uint(walk))
			sum += max(place, -place)
		}
		want := ratio(big.NewRat(int64(sum), 2<<k))
		said := make([][]int, k)
		for i := range said {
			say := rng.Intn(2)
			said[i] = []int{say, 1 - say}
		}
		if r, e := luck.Regret(k, 2, said); r != want || e != api.OK {
			t.Error(k, r, e, want)
		}
	}
}

func TestSaidStays(t *testing.T) {
	said := [][]int{{0, 1}, {1, 1}}
	for range 2 {
		if r, e := luck.Regret(2, 2, said); r != (api.Ratio{Num: 1, Den: 2}) || e != api.OK {
			t.Fatal(r, e)
		}
		if !slices.Equal(said[0], []int{0, 1}) || !slices.Equal(said[1], []int{1, 1}) {
			t.Fatal("what was said was changed", said)
		}
	}
}
