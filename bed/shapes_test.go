package bed_test

import (
	"math"
	"math/rand"
	"reflect"
	"testing"

	"dibber/api"
	"dibber/bed"
)

func TestCyclic(t *testing.T) {
	for _, c := range []struct {
		n, step int
		want    [][]int
	}{
		{1, 1, [][]int{{0}}},
		{2, 1, [][]int{{0, 1}, {1, 0}}},
		{3, 1, three},
		{3, 2, [][]int{{0, 1, 2}, {2, 0, 1}, {1, 2, 0}}},
		{4, 3, [][]int{{0, 1, 2, 3}, {3, 0, 1, 2}, {2, 3, 0, 1}, {1, 2, 3, 0}}},
	} {
		if l, e := bed.Cyclic(c.n, c.step); !reflect.DeepEqual(l, c.want) || e != api.OK {
			t.Error(c, l, e)
		}
	}
	for n := 1; n <= api.MaxCrops; n++ {
		for step := 1; step <= n; step++ {
			l, e := bed.Cyclic(n, step)
			if commonDivisor(n, step) > 1 {
				if l != nil || e != api.ErrArg {
					t.Error(n, step, l, e)
				}
				continue
			}
			if e != api.OK || len(l) != n || !fills(l, empty(n)) || l[n-1][0] != (n-1)*step%n {
				t.Error(n, step, l, e)
			}
		}
	}
}

func TestCyclicRefuses(t *testing.T) {
	for _, c := range [][2]int{
		{0, 1}, {-1, 1}, {8, 1}, {math.MaxInt, 1}, {math.MinInt, 1}, {math.MinInt, -1}, {0, 0},
		{1, 0}, {1, 2}, {1, -1}, {3, 0}, {3, 3}, {3, 4}, {3, -1}, {3, -2}, {7, 7}, {7, 8},
		{4, 2}, {6, 2}, {6, 3}, {6, 4}, {5, math.MaxInt}, {5, math.MinInt},
	} {
		if l, e := bed.Cyclic(c[0], c[1]); l != nil || e != api.ErrArg {
			t.Error(c, l, e)
		}
	}
}

func commonDivisor(a, b int) int {
	most := 1
	for d := 2; d <= a; d++ {
		if a%d == 0 && b%d == 0 {
			most = d
		}
	}
	return most
}

func TestMatesOfCyclicBeds(t *testing.T) {
	for n := 1; n <= api.MaxCrops; n++ {
		for s := 1; s <= n; s++ {
			for u := 1; u < s; u++ {
				a, e := bed.Cyclic(n, s)
				b, f := bed.Cyclic(n, u)
				if e != api.OK || f != api.OK {
					continue
				}
				if ok, e := bed.Mates(a, b); ok != (commonDivisor(n, s-u) == 1) || e != api.OK {
					t.Error(n, s, u, ok, e)
				}
			}
		}
	}
}

func TestTransversalsOfCyclicBeds(t *testing.T) {
	for n := 1; n <= api.MaxCrops; n++ {
		_, e := bed.Transversal(cyclic(n, 1))
		if (e == api.OK) != (n%2 == 1) {
			t.Error(n, e)
		}
		if all, e := bed.Transversals(cyclic(n, 1)); all%n != 0 || (all > 0) != (n%2 == 1) || e != api.OK {
			t.Error(n, all, e)
		}
	}
}

func TestSquares(t *testing.T) {
	for _, c := range []struct {
		bed  [][]int
		want int
	}{
		{[][]int{{0}}, 0},
		{[][]int{{0, 1}, {1, 0}}, 1},
		{[][]int{{1, 0}, {0, 1}}, 1},
		{three, 0},
		{klein, 12},
		{cyclic(4, 1), 4},
		{cyclic(6, 1), 9},
		{cyclic(7, 1), 0},
	} {
		if n, e := bed.Squares(c.bed); n != c.want || e != api.OK {
			t.Error(c, n, e)
		}
	}
	rng := rand.New(rand.NewSource(31))
	for range 200 {
		b := someFull(rng, 1+rng.Intn(api.MaxCrops))
		if n, e := bed.Squares(b); n != squaresOf(b) || e != api.OK {
			t.Fatal(b, n, e)
		}
	}
}

// squaresOf counts the crops at the four places.
func squaresOf(b [][]int) int {
	out := 0
	for r := range b {
		for s := r + 1; s < len(b); s++ {
			for c := range b {
				for d := c + 1; d < len(b); d++ {
					crops := map[int]bool{b[r][c]: true, b[r][d]: true, b[s][c]: true, b[s][d]: true}
					if len(crops) == 2 {
						out++
					}
				}
			}
		}
	}
	return out
}

func TestTurned(t *testing.T) {
	for _, c := range []struct{ bed, mirrored, rolled [][]int }{
		{[][]int{{0}}, [][]int{{0}}, [][]int{{0}}},
		{three, three, [][]int{{0, 2, 1}, {1, 0, 2}, {2, 1, 0}}},
		{cyclic(3, 2), [][]int{{0, 2, 1}, {1, 0, 2}, {2, 1, 0}}, three},
		{klein, klein, klein},
	} {
		if a, b, e := bed.Turned(c.bed); !reflect.DeepEqual(a, c.mirrored) || !reflect.DeepEqual(b, c.rolled) || e != api.OK {
			t.Error(c, a, b, e)
		}
	}
	rng := rand.New(rand.NewSource(32))
	for range 200 {
		full := someFull(rng, 1+rng.Intn(api.MaxCrops))
		a, b, e := bed.Turned(full)
		if e != api.OK || !fills(a, empty(len(full))) || !fills(b, empty(len(full))) {
			t.Fatal(full, a, b, e)
		}
		for r, row := range full {
			for c, crop := range row {
				if a[c][r] != crop || b[crop][r] != c {
					t.Fatal(full, a, b)
				}
			}
		}
	}
}

// wantAlike: both beds have as many transversals and squares, and both or none have a mate.
func wantAlike(t *testing.T, a, b [][]int) {
	t.Helper()
	m, _ := bed.Transversals(a)
	n, e := bed.Transversals(b)
	if m != n || e != api.OK {
		t.Fatal(a, b, m, n, e)
	}
	m, _ = bed.Squares(a)
	n, e = bed.Squares(b)
	if m != n || e != api.OK {
		t.Fatal(a, b, m, n, e)
	}
	_, e = bed.Mate(a)
	if _, f := bed.Mate(b); e != f {
		t.Fatal(a, b, e, f)
	}
}

func TestExchangedStaysAlike(t *testing.T) {
	rng := rand.New(rand.NewSource(33))
	for range 200 {
		b := someFull(rng, 1+rng.Intn(api.MaxCrops))
		wantAlike(t, b, scrambled(rng, b))
		mirrored, rolled, _ := bed.Turned(b)
		wantAlike(t, b, mirrored)
		wantAlike(t, b, rolled)
		again, back, _ := bed.Turned(rolled)
		wantAlike(t, b, again)
		wantAlike(t, b, back)
		if _, back, _ = bed.Turned(back); !reflect.DeepEqual(back, b) {
			t.Fatal("three turns do not lead back", b, back)
		}
	}
}
