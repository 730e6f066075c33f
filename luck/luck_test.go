package luck_test

import (
	"math"
	"math/big"
	"math/rand"
	"slices"
	"testing"

	"dibber/api"
	"dibber/luck"
)

// listeners are all functions with a record, told whether all results beside the error are zero.
func listeners(r record) map[string]func() (bool, api.Errno) {
	return map[string]func() (bool, api.Errno){
		"Halving":  func() (bool, api.Errno) { l, e := luck.Halving(r.n, r.said, r.came); return len(l) == 0, e },
		"Weighing": func() (bool, api.Errno) { l, w, e := luck.Weighing(r.n, r.said, r.came); return len(l)+len(w) == 0, e },
		"Best":     func() (bool, api.Errno) { i, w, e := luck.Best(r.n, r.said, r.came); return i == 0 && w == 0, e },
		"Winnow":   func() (bool, api.Errno) { l, e := luck.Winnow(r.n, r.said, r.came); return len(l) == 0, e },
	}
}

func TestWrongRecords(t *testing.T) {
	long := slices.Repeat([][]int{{1, 0}}, 201)
	for _, c := range []struct {
		record
		want api.Errno
	}{
		{record{0, nil, nil}, api.ErrArg},
		{record{-1, nil, nil}, api.ErrArg},
		{record{21, nil, nil}, api.ErrArg},
		{record{math.MinInt, nil, nil}, api.ErrArg},
		{record{math.MaxInt, nil, nil}, api.ErrArg},
		{record{0, long, make([]int, 201)}, api.ErrArg},
		{record{21, long, make([]int, 201)}, api.ErrArg},
		{record{2, long, make([]int, 201)}, api.ErrLimit},
		{record{2, long, nil}, api.ErrLimit},
		{record{2, long, []int{2}}, api.ErrLimit},
		{record{2, make([][]int, 201), nil}, api.ErrLimit},
		{record{2, long[:200], nil}, api.ErrArg},
		{record{2, long[:200], make([]int, 199)}, api.ErrArg},
		{record{2, long[:200], make([]int, 201)}, api.ErrArg},
		{record{2, nil, make([]int, 201)}, api.ErrArg},
		{record{2, nil, []int{1}}, api.ErrArg},
		{record{2, [][]int{nil}, []int{1}}, api.ErrArg},
		{record{2, [][]int{{1}}, []int{1}}, api.ErrArg},
		{record{2, [][]int{{1, 0, 1}}, []int{1}}, api.ErrArg},
		{record{2, [][]int{{1, 0}, {1, 0, 1}}, []int{1, 0}}, api.ErrArg},
		{record{2, [][]int{{1, 2}}, []int{1}}, api.ErrArg},
		{record{2, [][]int{{-1, 0}}, []int{1}}, api.ErrArg},
		{record{2, [][]int{{1, 0}, {0, math.MinInt}}, []int{1, 0}}, api.ErrArg},
		{record{2, [][]int{{1, 0}, {math.MaxInt, 0}}, []int{1, 0}}, api.ErrArg},
		{record{2, [][]int{{1, 0}}, []int{2}}, api.ErrArg},
		{record{2, [][]int{{1, 0}}, []int{-1}}, api.ErrArg},
		{record{2, [][]int{{1, 0}, {1, 0}}, []int{0, math.MaxInt}}, api.ErrArg},
	} {
		for name, call := range listeners(c.record) {
			if zero, e := call(); !zero || e != c.want {
				t.Error(name, c, zero, e)
			}
		}
	}
}

func TestRecordsAtTheirLimits(t *testing.T) {
	for _, r := range []record{
		{1, nil, nil},
		{20, nil, nil},
		{1, slices.Repeat([][]int{{1}}, 200), make([]int, 200)},
		{20, slices.Repeat([][]int{make([]int, 20)}, 200), slices.Repeat([]int{1}, 200)},
	} {
		for name, call := range listeners(r) {
			if _, e := call(); e != api.OK {
				t.Error(name, r, e)
			}
		}
		wantRecord(t, r)
	}
	if l, w, e := luck.Weighing(3, nil, nil); len(l) != 0 || !slices.Equal(w, []int{0, 0, 0}) || e != api.OK {
		t.Error(l, w, e)
	}
}

// wantRecord compares with the references.
func wantRecord(t *testing.T, r record) {
	t.Helper()
	if l, e := luck.Halving(r.n, r.said, r.came); !slices.Equal(l, r.halving()) || e != api.OK {
		t.Fatal(r, l, e, r.halving())
	}
	wrong := r.wrongs(len(r.said))
	if l, w, e := luck.Weighing(r.n, r.said, r.came); !slices.Equal(l, r.weighing()) || !slices.Equal(w, wrong) || e != api.OK {
		t.Fatal(r, l, w, e, r.weighing(), wrong)
	}
	if l, e := luck.Winnow(r.n, r.said, r.came); !slices.Equal(l, r.winnow()) || e != api.OK {
		t.Fatal(r, l, e, r.winnow())
	}
	who, times := r.best()
	if i, w, e := luck.Best(r.n, r.said, r.came); i != who || w != times || e != api.OK {
		t.Fatal(r, i, w, e, who, times)
	}
}

func TestSmallRecords(t *testing.T) {
	for n := 1; n <= 3; n++ {
		for nights := range 4 {
			size := n*nights + nights
			for all := range 1 << size {
				list := nightsOf(size, all)
				r := record{n: n, came: list[n*nights:]}
				for night := range nights {
					r.said = append(r.said, list[n*night:n*night+n])
				}
				wantRecord(t, r)
			}
		}
	}
}

func TestSomeRecords(t *testing.T) {
	rng := rand.New(rand.NewSource(51))
	for range 1500 {
		wantRecord(t, someRecord(rng, 1+rng.Intn(20), rng.Intn(12)))
	}
	for range 10 {
		wantRecord(t, someRecord(rng, 1+rng.Intn(20), 200))
	}
}

func TestHalving(t *testing.T) {
	for _, c := range []struct {
		record
		want []int
	}{
		// Nobody is left after two nights.
		{record{2, [][]int{{0, 1}, {0, 1}, {1, 1}}, []int{1, 0, 1}}, []int{0, 1, 0}},
		// As many say the one as the other.
		{record{4, [][]int{{1, 1, 0, 0}, {1, 1, 1, 0}}, []int{1, 1}}, []int{0, 1}},
		// Those who were wrong are not asked any more.
		{record{3, [][]int{{0, 1, 1}, {1, 0, 0}, {0, 1, 1}}, []int{0, 1, 0}}, []int{1, 1, 0}},
	} {
		if l, e := luck.Halving(c.n, c.said, c.came); !slices.Equal(l, c.want) || e != api.OK {
			t.Error(c, l, e)
		}
	}
}

func TestWeighing(t *testing.T) {
	if l, w, e := luck.Weighing(2, [][]int{{0, 1}, {0, 1}}, []int{1, 1}); !slices.Equal(l, []int{0, 1}) || !slices.Equal(w, []int{2, 0}) || e != api.OK {
		t.Error(l, w, e)
	}
	// One who was wrong once weighs as much as two who were wrong twice.
	for _, c := range []struct{ last, wrong []int }{{[]int{1, 0, 0}, []int{2, 2, 2}}, {[]int{0, 1, 1}, []int{1, 3, 3}}} {
		said := [][]int{{0, 1, 1}, {1, 0, 0}, {1, 0, 0}, c.last}
		if l, w, e := luck.Weighing(3, said, []int{1, 1, 1, 0}); !slices.Equal(l, []int{1, 0, 0, 0}) || !slices.Equal(w, c.wrong) || e != api.OK {
			t.Error(l, w, e)
		}
	}
}

func TestWeighingOfLightWeights(t *testing.T) {
	// Those who are always wrong have weights of 2^-199 in the last night, but are exactly weighed.
	for _, tell := range []struct{ last, want int }{{0, 0}, {1, 1}} {
		r := record{n: 20, came: make([]int, 200)}
		for range 200 {
			r.said = append(r.said, slices.Repeat([]int{1}, 20))
		}
		for who := range 20 {
			r.said[199][who] = who % 2
		}
		r.said[199][0] = tell.last
		if l, w, e := luck.Weighing(20, r.said, r.came); l[199] != tell.want || w[0] != 199+tell.last || w[1] != 200 || e != api.OK {
			t.Error(l, w, e)
		}
		wantRecord(t, r)
	}
	// One who was never wrong outweighs nineteen who were always wrong, but not, of five nights on, by as much as sixteen.
	for _, nights := range []int{1, 2, 4, 5, 6, 64, 65, 66, 130, 199} {
		r := record{n: 20}
		for range nights {
			r.said = append(r.said, append([]int{0}, slices.Repeat([]int{1}, 19)...))
			r.came = append(r.came, 0)
		}
		r.said = append(r.said, append([]int{1}, make([]int, 19)...))
		r.came = append(r.came, 1)
		l, _, e := luck.Weighing(r.n, r.said, r.came)
		if want := nights >= 5; (l[nights] == 1) != want || e != api.OK {
			t.Error(nights, l, e)
		}
	}
}

func TestWeighingOfDoublings(t *testing.T) {
	// Foreteller i was wrong i times, so that the first of those who say 1 is held against all after it, who say 0.
	for first := range 20 {
		for last := range 2 {
			r := record{n: 20}
			for night := range 19 {
				says := make([]int, 20)
				for who := range says {
					if who > night {
						says[who] = 1
					}
				}
				r.said = append(r.said, says)
				r.came = append(r.came, 0)
			}
			says := make([]int, 20)
			says[first] = 1
			says[19] = last
			r.said = append(r.said, says)
			r.came = append(r.came, 0)
			wantRecord(t, r)
		}
	}
}

func TestBest(t *testing.T) {
	for _, c := range []struct {
		record
		who, times int
	}{
		{record{3, nil, nil}, 0, 0},
		{record{2, [][]int{{0, 1}, {0, 1}}, []int{1, 1}}, 1, 0},
		{record{3, [][]int{{0, 1, 1}, {0, 1, 0}, {0, 0, 1}}, []int{1, 1, 1}}, 1, 1},
		{record{3, [][]int{{0, 0, 0}}, []int{1}}, 0, 1},
		{record{3, [][]int{{0, 0, 1}}, []int{1}}, 2, 0},
	} {
		if i, w, e := luck.Best(c.n, c.said, c.came); i != c.who || w != c.times || e != api.OK {
			t.Error(c, i, w, e)
		}
	}
}

func TestWinnow(t *testing.T) {
	for _, c := range []struct {
		record
		want []int
	}{
		{record{1, [][]int{{1}, {1}, {0}}, []int{0, 1, 0}}, []int{1, 0, 0}},
		// The weights 1, 2, 4 of one of five, and 8, which suffices.
		{record{5, slices.Repeat([][]int{{0, 1, 0, 0, 0}}, 4), []int{1, 1, 1, 1}}, []int{0, 0, 0, 1}},
		// Two double at the same time, the other one stays.
		{record{3, [][]int{{1, 1, 0}, {0, 1, 1}, {1, 0, 1}, {1, 0, 0}}, []int{1, 1, 0, 0}}, []int{0, 1, 1, 0}},
		// A weight is not doubled where 1 was foretold, nor lost where 0 was.
		{record{2, [][]int{{1, 1}, {1, 0}, {1, 0}, {1, 0}}, []int{1, 0, 1, 0}}, []int{1, 0, 0, 1}},
		// Who says 0 keeps a weight when others lose theirs.
		{record{2, [][]int{{0, 1}, {0, 1}, {1, 0}, {0, 1}, {1, 0}}, []int{1, 0, 1, 1, 1}}, []int{0, 1, 0, 0, 1}},
	} {
		if l, e := luck.Winnow(c.n, c.said, c.came); !slices.Equal(l, c.want) || e != api.OK {
			t.Error(c, l, e)
		}
	}
}

func TestTheoremOfHalving(t *testing.T) {
	rng := rand.New(rand.NewSource(52))
	worst := map[int]int{}
	for range 3000 {
		n := 1 + rng.Intn(20)
		r := someRecord(rng, n, rng.Intn(30))
		never := rng.Intn(n)
		for night, says := range r.said {
			says[never] = r.came[night]
		}
		l, e := luck.Halving(n, r.said, r.came)
		if e != api.OK || power(2, mistakes(l, r.came)).Cmp(big.NewInt(int64(n))) > 0 {
			t.Fatal(r, l, e)
		}
		worst[n] = max(worst[n], mistakes(l, r.came))
	}
	if worst[2] != 1 || worst[5] != 2 {
		t.Error("the theorem is met at its limit by no record tried", worst)
	}
}

func TestTheoremOfWeighing(t *testing.T) {
	rng := rand.New(rand.NewSource(53))
	for range 1000 {
		n := 1 + rng.Intn(20)
		wantFewMistakes(t, someRecord(rng, n, rng.Intn(40)))
	}
	for _, n := range []int{1, 2, 7, 20} {
		wantFewMistakes(t, adversary(rng, n))
	}
}

// adversary has something else come, each night, than Weighing foretells.
func adversary(rng *rand.Rand, n int) record {
	r := record{n: n}
	for night := range 200 {
		r.said = append(r.said, someBits(rng, n))
		r.came = append(r.came, 0)
		l, _, _ := luck.Weighing(n, r.said, r.came)
		r.came[night] = 1 - l[night]
	}
	return r
}

// wantFewMistakes asks that (4/3)^m is at most n times 2^b.
func wantFewMistakes(t *testing.T, r record) {
	t.Helper()
	l, w, e := luck.Weighing(r.n, r.said, r.came)
	m, b := mistakes(l, r.came), slices.Min(w)
	most := new(big.Int).Mul(power(3, m), power(2, b))
	most.Mul(most, big.NewInt(int64(r.n)))
	if e != api.OK || power(4, m).Cmp(most) > 0 {
		t.Fatal(r, m, b, e)
	}
}

func TestTheoremOfWinnow(t *testing.T) {
	rng := rand.New(rand.NewSource(54))
	for range 2000 {
		n := 1 + rng.Intn(20)
		few := rng.Perm(n)[:rng.Intn(n+1)]
		r := record{n: n, said: someSaid(rng, 200, n)}
		for _, says := range r.said {
			for who := range says {
				if rng.Intn(3) > 0 {
					says[who] = 0
				}
			}
			came := 0
			for _, who := range few {
				came = max(came, says[who])
			}
			r.came = append(r.came, came)
		}
		h := 0
		for 1<<h < n {
			h++
		}
		l, e := luck.Winnow(n, r.said, r.came)
		if e != api.OK || mistakes(l, r.came) > 2+3*len(few)*(1+h) {
			t.Fatal(r, few, l, e)
		}
	}
}

func TestArgumentsStay(t *testing.T) {
	rng := rand.New(rand.NewSource(55))
	r := someRecord(rng, 5, 20)
	said, came := make([][]int, 20), slices.Clone(r.came)
	for i := range said {
		said[i] = slices.Clone(r.said[i])
	}
	for range 2 {
		wantRecord(t, r)
		for i := range said {
			if !slices.Equal(said[i], r.said[i]) || !slices.Equal(came, r.came) {
				t.Fatal("a record was changed", r)
			}
		}
	}
	l, w, _ := luck.Weighing(5, r.said, r.came)
	for i := range l {
		l[i] = 9
	}
	for i := range w {
		w[i] = 9
	}
	wantRecord(t, r)
}
