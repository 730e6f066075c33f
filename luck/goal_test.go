package luck_test

import (
	"math"
	"math/big"
	"math/rand"
	"slices"
	"testing"

	"dibber/api"
	"dibber/luck"
)

func TestWrongGoals(t *testing.T) {
	for _, c := range []struct {
		k    int
		goal []int
	}{
		{0, nil},
		{0, []int{0}},
		{-1, nil},
		{math.MinInt, []int{30, 30}},
		{math.MaxInt, []int{30, 30}},
		{62, []int{30, 30}},
		{63, []int{30, 30}},
		{64, []int{30, 30}},
		{65, []int{30, 30}},
		{11, slices.Repeat([]int{400}, 2048)},
		{1, nil},
		{1, []int{30}},
		{1, []int{30, 30, 30}},
		{2, []int{60, 60}},
		{10, slices.Repeat([]int{400}, 1023)},
		{10, slices.Repeat([]int{400}, 1025)},
		{1, []int{-1, 60}},
		{1, []int{60, -1}},
		{1, []int{61, 60}},
		{1, []int{60, 61}},
		{2, []int{120, 120, 121, 120}},
		{1, []int{math.MinInt, 30}},
		{1, []int{30, math.MaxInt}},
	} {
		if n, e := luck.Can(c.k, c.goal); n != 0 || e != api.ErrArg {
			t.Error(c, n, e)
		}
		if r, e := luck.Guess(c.k, c.goal, nil); r != (api.Ratio{}) || e != api.ErrArg {
			t.Error(c, r, e)
		}
		for _, series := range []int{0, -1} {
			if r, e := luck.Loss(c.k, c.goal, series); r != (api.Ratio{}) || e != api.ErrArg {
				t.Error(c, r, e)
			}
		}
	}
}

func TestCan(t *testing.T) {
	for _, c := range []struct {
		k    int
		goal []int
		want int
	}{
		{1, []int{30, 30}, 1},
		{1, []int{29, 30}, 0},
		{1, []int{29, 31}, 1},
		{1, []int{0, 60}, 1},
		{1, []int{60, 0}, 1},
		{1, []int{0, 59}, 0},
		{1, []int{0, 0}, 0},
		{1, []int{60, 60}, 1},
		{2, []int{30, 60, 60, 90}, 1},
		{2, []int{0, 0, 120, 120}, 0},
		{2, []int{120, 120, 0, 0}, 0},
		// A mean of 60 does not help where the values differ by too much, but more does.
		{2, []int{30, 30, 90, 90}, 1},
		{2, []int{29, 31, 90, 90}, 1},
		{2, []int{29, 30, 120, 120}, 0},
		{2, []int{0, 60, 60, 120}, 1},
		{2, []int{0, 59, 120, 120}, 0},
		{2, []int{120, 0, 60, 60}, 0},
		{10, slices.Repeat([]int{300}, 1024), 1},
		{10, append(slices.Repeat([]int{300}, 1023), 299), 0},
		{10, slices.Repeat([]int{600}, 1024), 1},
		{10, make([]int, 1024), 0},
	} {
		if n, e := luck.Can(c.k, c.goal); n != c.want || e != api.OK {
			t.Error(c, n, e)
		}
	}
}

// someGoal has numbers that are multiples of unit, most of them around 30 k.
func someGoal(rng *rand.Rand, k, unit int) []int {
	out := make([]int, 1<<k)
	spread := 1 + rng.Intn(60*k/unit)
	for i := range out {
		out[i] = (30*k/unit + rng.Intn(2*spread+1) - spread + rng.Intn(2)) * unit
		out[i] = max(0, min(out[i], 60*k/unit*unit))
	}
	return out
}

func TestCanByAllGuesses(t *testing.T) {
	for g0 := 0; g0 <= 60; g0 += 15 {
		for g1 := 0; g1 <= 60; g1 += 15 {
			wantCan(t, 1, []int{g0, g1})
		}
	}
	rng := rand.New(rand.NewSource(58))
	got := [2]int{}
	for range 1500 {
		got[wantCan(t, 2, someGoal(rng, 2, 15))]++
		got[wantCan(t, 3, someGoal(rng, 3, 30))]++
	}
	for range 100 {
		got[wantCan(t, 4, someGoal(rng, 4, 60))]++
	}
	if min(got[0], got[1]) < 300 {
		t.Error("too few goals tried can, or cannot, be kept", got)
	}
}

// wantCan compares with all guesses that are whole sixteenths.
func wantCan(t *testing.T, k int, goal []int) int {
	t.Helper()
	want := 0
	if canBy(goal, 0) {
		want = 1
	}
	if n, e := luck.Can(k, goal); n != want || e != api.OK {
		t.Fatal(k, goal, n, e, want)
	}
	return want
}

func TestGuess(t *testing.T) {
	for _, c := range []struct {
		k            int
		goal, nights []int
		want         api.Ratio
	}{
		{1, []int{30, 30}, nil, api.Ratio{Num: 1, Den: 2}},
		{1, []int{0, 60}, nil, api.Ratio{Num: 0, Den: 1}},
		{1, []int{60, 0}, []int{}, api.Ratio{Num: 1, Den: 1}},
		{1, []int{20, 40}, nil, api.Ratio{Num: 1, Den: 3}},
		{1, []int{40, 21}, nil, api.Ratio{Num: 79, Den: 120}},
		{2, []int{30, 60, 60, 90}, nil, api.Ratio{Num: 1, Den: 4}},
		{2, []int{30, 60, 60, 90}, []int{0}, api.Ratio{Num: 1, Den: 4}},
		{2, []int{30, 60, 60, 90}, []int{1}, api.Ratio{Num: 1, Den: 4}},
		// The numbers differ by more than 60, but can be kept: at least 0, and at most 1.
		{2, []int{30, 30, 120, 120}, nil, api.Ratio{Num: 0, Den: 1}},
		{2, []int{120, 120, 30, 30}, nil, api.Ratio{Num: 1, Den: 1}},
		{2, []int{120, 0, 120, 60}, []int{0}, api.Ratio{Num: 1, Den: 1}},
		{2, []int{0, 120, 120, 60}, []int{0}, api.Ratio{Num: 0, Den: 1}},
		{2, []int{0, 120, 120, 60}, []int{1}, api.Ratio{Num: 1, Den: 1}},
	} {
		if r, e := luck.Guess(c.k, c.goal, c.nights); r != c.want || e != api.OK {
			t.Error(c, r, e)
		}
	}
}

func TestGuessOfWrongNights(t *testing.T) {
	for _, c := range []struct {
		k            int
		goal, nights []int
		want         api.Errno
	}{
		{1, []int{30, 30}, []int{0}, api.ErrArg},
		{2, []int{60, 60, 60, 60}, []int{0, 1}, api.ErrArg},
		{2, []int{60, 60, 60, 60}, []int{0, 1, 1}, api.ErrArg},
		{2, []int{60, 60, 60, 60}, []int{2}, api.ErrArg},
		{2, []int{60, 60, 60, 60}, []int{-1}, api.ErrArg},
		{3, slices.Repeat([]int{90}, 8), []int{0, math.MinInt}, api.ErrArg},
		{3, slices.Repeat([]int{90}, 8), []int{math.MaxInt, 0}, api.ErrArg},
		{1, []int{29, 30}, []int{0}, api.ErrArg},
		{2, make([]int, 4), []int{2}, api.ErrArg},
		{1, []int{29, 30}, nil, api.ErrPlan},
		{2, make([]int, 4), []int{1}, api.ErrPlan},
		{2, []int{0, 0, 120, 120}, []int{1}, api.ErrPlan},
	} {
		if r, e := luck.Guess(c.k, c.goal, c.nights); r != (api.Ratio{}) || e != c.want {
			t.Error(c, r, e)
		}
	}
}

func TestLoss(t *testing.T) {
	for _, c := range []struct {
		k      int
		goal   []int
		series int
		want   api.Ratio
	}{
		{1, []int{30, 30}, 0, api.Ratio{Num: 1, Den: 2}},
		{1, []int{30, 30}, 1, api.Ratio{Num: 1, Den: 2}},
		{1, []int{20, 40}, 0, api.Ratio{Num: 1, Den: 3}},
		{1, []int{20, 40}, 1, api.Ratio{Num: 2, Den: 3}},
		{1, []int{0, 60}, 0, api.Ratio{Num: 0, Den: 1}},
		{1, []int{0, 60}, 1, api.Ratio{Num: 1, Den: 1}},
		{2, []int{30, 60, 60, 90}, 0, api.Ratio{Num: 1, Den: 2}},
		{2, []int{30, 60, 60, 90}, 1, api.Ratio{Num: 1, Den: 1}},
		{2, []int{30, 60, 60, 90}, 2, api.Ratio{Num: 1, Den: 1}},
		{2, []int{30, 60, 60, 90}, 3, api.Ratio{Num: 3, Den: 2}},
		// The goal can be kept, but not by its means, as two values differ by 120.
		{2, []int{120, 0, 60, 120}, 1, api.Ratio{Num: 1, Den: 4}},
		{10, slices.Repeat([]int{300}, 1024), 1023, api.Ratio{Num: 5, Den: 1}},
		{10, slices.Repeat([]int{600}, 1024), 0, api.Ratio{Num: 5, Den: 1}},
	} {
		if r, e := luck.Loss(c.k, c.goal, c.series); r != c.want || e != api.OK {
			t.Error(c, r, e)
		}
	}
	for _, c := range []struct {
		goal   []int
		series int
		want   api.Errno
	}{
		{[]int{60, 60, 60, 60}, -1, api.ErrRange},
		{[]int{60, 60, 60, 60}, 4, api.ErrRange},
		{[]int{60, 60, 60, 60}, math.MinInt, api.ErrRange},
		{[]int{60, 60, 60, 60}, math.MaxInt, api.ErrRange},
		{[]int{0, 0, 0, 0}, 4, api.ErrRange},
		{[]int{0, 0, 0, 0}, -1, api.ErrRange},
		{[]int{0, 0, 0, 0}, 3, api.ErrPlan},
		{[]int{60, 60, 60, 59}, 0, api.ErrPlan},
	} {
		if r, e := luck.Loss(2, c.goal, c.series); r != (api.Ratio{}) || e != c.want {
			t.Error(c, r, e)
		}
	}
}

// wantGoal compares all guesses, and what is lost, with the formula, and asks what the theorem promises.
func wantGoal(t *testing.T, k int, goal []int) {
	t.Helper()
	can, e := luck.Can(k, goal)
	if e != api.OK {
		t.Fatal(k, goal, can, e)
	}
	mean, flat := value(k, goal, nil), steady(k, goal)
	enough := mean.Cmp(big.NewRat(int64(k), 2)) >= 0
	if can == 1 && !enough || flat && enough && can != 1 {
		t.Fatal(k, goal, can, mean, flat)
	}
	for length := range k {
		for prefix := range 1 << length {
			nights := nightsOf(length, prefix)
			r, e := luck.Guess(k, goal, nights)
			if can == 0 && (r != api.Ratio{} || e != api.ErrPlan) || can == 1 && (r != ratio(guess(k, goal, nights)) || e != api.OK) {
				t.Fatal(k, goal, nights, can, r, e)
			}
		}
	}
	for series := range goal {
		r, e := luck.Loss(k, goal, series)
		if can == 0 && (r != api.Ratio{} || e != api.ErrPlan) || can == 1 && (r != ratio(loss(k, goal, series)) || e != api.OK) {
			t.Fatal(k, goal, series, can, r, e)
		}
		if can == 1 && flat && rational(r).Cmp(big.NewRat(int64(goal[series]), 60)) > 0 {
			t.Fatal(k, goal, series, r)
		}
	}
}

func TestTheoremOfCover(t *testing.T) {
	for g0 := range 61 {
		for g1 := range 61 {
			wantGoal(t, 1, []int{g0, g1})
		}
	}
	rng := rand.New(rand.NewSource(59))
	for range 300 {
		k := 1 + rng.Intn(4)
		wantGoal(t, k, someGoal(rng, k, 1+rng.Intn(30)))
		wantGoal(t, k, tight(rng, k, 5))
		wantGoal(t, k, tight(rng, k, 20))
	}
	wantGoal(t, 7, tight(rng, 7, 5))
}

// tight is a goal with a mean of 30 k, but for one number that may be one more or less.
func tight(rng *rand.Rand, k, most int) []int {
	out := slices.Repeat([]int{30 * k}, 1<<k)
	for range 4 << k {
		from, to, much := rng.Intn(len(out)), rng.Intn(len(out)), rng.Intn(most)
		if out[from] >= much && out[to]+much <= 60*k {
			out[from] -= much
			out[to] += much
		}
	}
	one := rng.Intn(len(out))
	out[one] = max(0, min(out[one]+rng.Intn(3)-1, 60*k))
	return out
}

func TestTenNights(t *testing.T) {
	rng := rand.New(rand.NewSource(60))
	said := someSaid(rng, 10, 3)
	r, _ := luck.Regret(10, 3, said)
	goal := likeTheBest(10, said, (60*r.Num+r.Den-1)/r.Den)
	if n, e := luck.Can(10, goal); n != 1 || e != api.OK {
		t.Fatal(n, e)
	}
	for _, series := range []int{0, 1, 511, 512, 682, 1022, 1023} {
		if r, e := luck.Loss(10, goal, series); r != ratio(loss(10, goal, series)) || e != api.OK {
			t.Error(series, r, e)
		}
	}
	for length := range 10 {
		nights := nightsOf(length, rng.Intn(1<<length))
		if r, e := luck.Guess(10, goal, nights); r != ratio(guess(10, goal, nights)) || e != api.OK {
			t.Error(nights, r, e)
		}
	}
}

func TestGoalsStay(t *testing.T) {
	goal, nights := []int{30, 60, 60, 90}, []int{1}
	for range 2 {
		_, _ = luck.Can(2, goal)
		_, _ = luck.Guess(2, goal, nights)
		_, _ = luck.Loss(2, goal, 3)
		if !slices.Equal(goal, []int{30, 60, 60, 90}) || nights[0] != 1 {
			t.Fatal("an argument was changed", goal, nights)
		}
	}
}
