package luck_test

import (
	"math"
	"math/rand"
	"slices"
	"testing"

	"dibber/api"
	"dibber/luck"
)

func TestWrongPoints(t *testing.T) {
	dots := slices.Repeat([][]int{{1}}, 51)
	for _, c := range []struct {
		points [][]int
		signs  []int
		rounds int
		want   api.Errno
	}{
		{dots, slices.Repeat([]int{1}, 51), 5, api.ErrLimit},
		{dots, nil, 0, api.ErrLimit},
		{make([][]int, 51), nil, 0, api.ErrLimit},
		{nil, nil, 5, api.ErrArg},
		{nil, nil, 0, api.ErrArg},
		{nil, []int{1}, 5, api.ErrArg},
		{dots[:2], []int{1}, 5, api.ErrArg},
		{dots[:2], []int{1, 1, 1}, 5, api.ErrArg},
		{dots[:2], []int{1, 0}, 5, api.ErrArg},
		{dots[:2], []int{2, 1}, 5, api.ErrArg},
		{dots[:2], []int{-2, 1}, 5, api.ErrArg},
		{dots[:2], []int{1, math.MinInt}, 5, api.ErrArg},
		{dots[:2], []int{1, math.MaxInt}, 0, api.ErrArg},
		{[][]int{{}}, []int{1}, 5, api.ErrArg},
		{[][]int{nil, nil}, []int{1, 1}, 5, api.ErrArg},
		{[][]int{make([]int, 7)}, []int{1}, 5, api.ErrArg},
		{[][]int{{1, 0}, {1}}, []int{1, 1}, 5, api.ErrArg},
		{[][]int{{1}, {1, 0}}, []int{1, 1}, 5, api.ErrArg},
		{[][]int{{1}, {1}, nil}, []int{1, 1, 1}, 5, api.ErrArg},
		{[][]int{{1, 101}}, []int{1}, 5, api.ErrArg},
		{[][]int{{1, 0}, {-101, 0}}, []int{1, 1}, 5, api.ErrArg},
		{[][]int{{math.MinInt}}, []int{1}, 5, api.ErrArg},
		{[][]int{{math.MaxInt}}, []int{1}, 0, api.ErrArg},
		{dots[:2], []int{1, 1}, 0, api.ErrRange},
		{dots[:2], []int{1, 1}, -1, api.ErrRange},
		{dots[:2], []int{1, 1}, 1001, api.ErrRange},
		{dots[:2], []int{1, 1}, math.MinInt, api.ErrRange},
		{dots[:2], []int{1, 1}, math.MaxInt, api.ErrRange},
		{dots[:2], []int{1, -1}, 1001, api.ErrRange},
		{dots[:2], []int{1, 1}, 1, api.ErrPlan},
		{dots[:2], []int{1, -1}, 1, api.ErrPlan},
		{dots[:2], []int{1, -1}, 1000, api.ErrPlan},
		{[][]int{{0, 0, 0}}, []int{1}, 1000, api.ErrPlan},
		{[][]int{{0, 0, 0}}, []int{-1}, 1000, api.ErrPlan},
		{[][]int{{1, 0}, {-1, 0}}, []int{1, 1}, 7, api.ErrPlan},
	} {
		if l, n, e := luck.Perceptron(c.points, c.signs, c.rounds); len(l) != 0 || n != 0 || e != c.want {
			t.Error(c, l, n, e)
		}
	}
}

func TestPerceptron(t *testing.T) {
	for _, c := range []struct {
		points   [][]int
		signs    []int
		rounds   int
		weights  []int
		mistakes int
	}{
		{[][]int{{1}, {-1}}, []int{1, -1}, 2, []int{1}, 1},
		{[][]int{{1}, {-1}}, []int{-1, 1}, 1000, []int{-1}, 1},
		{[][]int{{100, -100, 100, -100, 100, -100}}, []int{-1}, 2, []int{-100, 100, -100, 100, -100, 100}, 1},
		{slices.Repeat([][]int{{7}}, 50), slices.Repeat([]int{1}, 50), 2, []int{7}, 1},
		// The weights 1 0 give the second point a sum of 0, which is a mistake.
		{[][]int{{1, 0}, {0, 1}}, []int{1, 1}, 2, []int{1, 1}, 2},
		{[][]int{{1, 0}, {0, 1}}, []int{1, -1}, 2, []int{1, -1}, 2},
		{[][]int{{3, 1}, {2, -1}}, []int{1, 1}, 2, []int{3, 1}, 1},
		// Eight rounds have a mistake, the ninth has none.
		{[][]int{{1, 1}, {2, 1}}, []int{1, -1}, 9, []int{-2, 3}, 13},
	} {
		if l, n, e := luck.Perceptron(c.points, c.signs, c.rounds); !slices.Equal(l, c.weights) || n != c.mistakes || e != api.OK {
			t.Error(c, l, n, e)
		}
	}
}

func TestPerceptronEndsInTime(t *testing.T) {
	if l, n, e := luck.Perceptron([][]int{{1, 1}, {2, 1}}, []int{1, -1}, 8); len(l) != 0 || n != 0 || e != api.ErrPlan {
		t.Error(l, n, e)
	}
}

// learn counts how often each point was mistaken, and sums the weights of these points anew for each visit; 0 rounds if 1000 do not suffice.
func learn(points [][]int, signs []int) (weights []int, mistakes, rounds int) {
	times := make([]int, len(points))
	for round := 1; round <= 1000; round++ {
		before := mistakes
		for i, p := range points {
			weights = weigh(points, signs, times)
			if sum := dot(weights, p); signs[i] == 1 && sum <= 0 || signs[i] == -1 && sum >= 0 {
				times[i]++
				mistakes++
			}
		}
		if mistakes == before {
			return weights, mistakes, round
		}
	}
	return nil, 0, 0
}

func weigh(points [][]int, signs, times []int) []int {
	out := make([]int, len(points[0]))
	for i, p := range points {
		for axis, c := range p {
			out[axis] += times[i] * signs[i] * c
		}
	}
	return out
}

func dot(a, b []int) int {
	out := 0
	for i, x := range a {
		out += x * b[i]
	}
	return out
}

func somePoint(rng *rand.Rand, d, most int) []int {
	out := make([]int, d)
	for axis := range out {
		out[axis] = rng.Intn(2*most+1) - most
	}
	return out
}

func TestSomePoints(t *testing.T) {
	rng := rand.New(rand.NewSource(56))
	never := 0
	for range 600 {
		points, signs := make([][]int, 1+rng.Intn(7)), []int(nil)
		d, most := 1+rng.Intn(6), 1+rng.Intn(100)
		for i := range points {
			points[i] = somePoint(rng, d, most)
			signs = append(signs, 2*rng.Intn(2)-1)
		}
		weights, mistakes, rounds := learn(points, signs)
		if rounds == 0 {
			never++
			if l, n, e := luck.Perceptron(points, signs, 1000); len(l) != 0 || n != 0 || e != api.ErrPlan {
				t.Fatal(points, signs, l, n, e)
			}
			continue
		}
		for _, enough := range []int{rounds, 1000} {
			if l, n, e := luck.Perceptron(points, signs, enough); !slices.Equal(l, weights) || n != mistakes || e != api.OK {
				t.Fatal(points, signs, enough, l, n, e, weights, mistakes)
			}
		}
		if l, n, e := luck.Perceptron(points, signs, rounds-1); rounds > 1 && (len(l) != 0 || n != 0 || e != api.ErrPlan) {
			t.Fatal(points, signs, rounds, l, n, e)
		}
	}
	if never < 20 || never > 500 {
		t.Error("too few of the points tried can, or cannot, be parted", never)
	}
}

func TestTheoremOfNovikoff(t *testing.T) {
	rng := rand.New(rand.NewSource(57))
	for range 500 {
		d := 1 + rng.Intn(6)
		line := somePoint(rng, d, 20)
		var points [][]int
		var signs []int
		far, g := 0, math.MaxInt
		for range 1 + rng.Intn(50) {
			p := somePoint(rng, d, 100)
			side := dot(line, p)
			if side == 0 {
				continue
			}
			points, signs = append(points, p), append(signs, side/max(side, -side))
			far, g = max(far, dot(p, p)), min(g, max(side, -side))
		}
		if len(points) == 0 {
			continue
		}
		l, n, e := luck.Perceptron(points, signs, 1000)
		if e == api.ErrPlan {
			// A thousand rounds with a mistake each are only possible where the theorem allows as many.
			n = 1000
		} else if e != api.OK || !parts(points, signs, l) {
			t.Fatal(points, signs, l, n, e)
		}
		if n*g*g > far*dot(line, line) {
			t.Fatal(points, signs, line, n, g)
		}
	}
}

// parts reports whether weights have every point on its side.
func parts(points [][]int, signs, weights []int) bool {
	for i, p := range points {
		if signs[i]*dot(weights, p) <= 0 {
			return false
		}
	}
	return true
}

func TestPointsStay(t *testing.T) {
	points, signs := [][]int{{1, 0}, {0, 1}}, []int{1, -1}
	for range 2 {
		l, n, e := luck.Perceptron(points, signs, 1000)
		if !slices.Equal(l, []int{1, -1}) || n != 2 || e != api.OK {
			t.Fatal(l, n, e)
		}
		l[0], l[1] = 9, 9
		if !slices.Equal(points[0], []int{1, 0}) || !slices.Equal(points[1], []int{0, 1}) || !slices.Equal(signs, []int{1, -1}) {
			t.Fatal("the points were changed", points, signs)
		}
	}
}
