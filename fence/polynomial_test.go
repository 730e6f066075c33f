package fence_test

import (
	"math"
	"math/big"
	"math/rand"
	"slices"
	"testing"

	"dibber/api"
	"dibber/fence"
)

// wantPolynomial compares the polynomial with the sum over all sets of fences.
func wantPolynomial(t *testing.T, y yard) {
	t.Helper()
	want := y.lists()
	if l, e := fence.Polynomial(y.n, y.fences); !sameLists(l, want) || e != api.OK {
		t.Fatal(y, l, e, want)
	}
}

func TestPolynomialAsWritten(t *testing.T) {
	for _, c := range []struct {
		yard
		want [][]int
	}{
		{yard{1, nil}, [][]int{{1}}},
		{yard{8, nil}, [][]int{{1}}},
		{yard{2, around(0, 2)[:1]}, [][]int{{0, 1}}},
		{yard{8, along(0, 8)}, [][]int{{0, 0, 0, 0, 0, 0, 0, 1}}},
		{yard{1, loops(0, 1)}, [][]int{{}, {1}}},
		{yard{8, loops(4, 3)}, [][]int{{}, {}, {}, {1}}},
		{yard{1, loops(0, 14)}, append(make([][]int, 14), []int{1})},
		{yard{8, append(along(0, 8), loops(0, 7)...)}, append(make([][]int, 7), []int{0, 0, 0, 0, 0, 0, 0, 1})},
		{parallel(2), [][]int{{0, 1}, {1}}},
		{parallel(4), [][]int{{0, 1}, {1}, {1}, {1}}},
		{yard{3, around(0, 3)}, [][]int{{0, 1, 1}, {1}}},
		{yard{8, around(0, 8)}, [][]int{{0, 1, 1, 1, 1, 1, 1, 1}, {1}}},
		{full(4), [][]int{{0, 2, 3, 1}, {2, 4}, {3}, {1}}},
		{full(5), [][]int{{0, 6, 11, 6, 1}, {6, 20, 10}, {15, 15}, {15, 5}, {10}, {4}, {1}}},
		// Two rings and a bridge and a loop: (x^2 + x + y) (x^3 + x^2 + x + y) x y.
		{twoRings(), [][]int{{}, {0, 0, 0, 1, 2, 2, 1}, {0, 0, 2, 2, 1}, {0, 1}}},
	} {
		if l, e := fence.Polynomial(c.n, c.fences); !sameLists(l, c.want) || e != api.OK {
			t.Error(c.yard, l, e, c.want)
		}
	}
}

func TestPolynomialByAllSets(t *testing.T) {
	for _, y := range slices.Concat(small(), many(61, 300, 9), many(62, 20, api.MaxFences), known()) {
		wantPolynomial(t, y)
	}
}

// TestManyFences has gardens of fourteen fences, whose sums are of many parts.
func TestManyFences(t *testing.T) {
	rng := rand.New(rand.NewSource(63))
	for n := 5; n <= api.MaxPosts; n++ {
		y := yard{n: n}
		for len(y.fences) < api.MaxFences {
			a, b := rng.Intn(n), rng.Intn(n)
			if a != b {
				y.fences = append(y.fences, api.Fence{A: a, B: b})
			}
		}
		wantPolynomial(t, y)
	}
}

// wantValue compares the value with the polynomial that the package returned for the garden.
func wantValue(t *testing.T, y yard, lists [][]int, a, b int) {
	t.Helper()
	want := valueOf(lists, a, b)
	if v, e := fence.Value(y.n, y.fences, a, b); want.Cmp(big.NewInt(int64(v))) != 0 || e != api.OK {
		t.Fatal(y, a, b, v, e, want)
	}
}

func TestValueEverywhere(t *testing.T) {
	y := twoRings()
	l, e := fence.Polynomial(y.n, y.fences)
	if e != api.OK {
		t.Fatal(y, l, e)
	}
	for a := -api.MaxPoint; a <= api.MaxPoint; a++ {
		for b := -api.MaxPoint; b <= api.MaxPoint; b++ {
			wantValue(t, y, l, a, b)
		}
	}
}

func TestValueOfManyGardens(t *testing.T) {
	for _, y := range slices.Concat(known(), many(64, 100, api.MaxFences)) {
		l, e := fence.Polynomial(y.n, y.fences)
		if e != api.OK {
			t.Fatal(y, l, e)
		}
		for _, a := range []int{-20, -1, 0, 1, 3, 20} {
			for _, b := range []int{-20, -2, 0, 1, 19, 20} {
				wantValue(t, y, l, a, b)
			}
		}
	}
}

func TestValueAtTheLimits(t *testing.T) {
	most := 1
	for range api.MaxFences {
		most *= api.MaxPoint
	}
	lot := yard{8, append(along(0, 8), loops(3, 7)...)}
	for _, c := range []struct {
		yard
		x, y, want int
	}{
		{yard{1, loops(0, 14)}, 0, 20, most},
		{yard{1, loops(0, 14)}, 20, -20, most},
		{yard{1, loops(0, 13)}, 20, -20, -most / 20},
		{lot, 20, 20, most},
		{lot, -20, 20, -most},
		{lot, -20, -20, most},
		{lot, 0, 20, 0},
		{lot, 20, 0, 0},
		{yard{1, nil}, 0, 0, 1},
		{yard{1, nil}, -20, 20, 1},
		{yard{3, around(0, 3)}, 20, 20, 440},
		{yard{3, around(0, 3)}, -20, -20, 360},
		{parallel(2), 20, -20, 0},
	} {
		if v, e := fence.Value(c.n, c.fences, c.x, c.y); v != c.want || e != api.OK {
			t.Error(c, v, e)
		}
	}
}

func TestValueOfWrongPoints(t *testing.T) {
	for _, c := range []struct {
		yard
		x, y int
		want api.Errno
	}{
		{full(3), 21, 0, api.ErrArg},
		{full(3), -21, 0, api.ErrArg},
		{full(3), 0, 21, api.ErrArg},
		{full(3), 0, -21, api.ErrArg},
		{full(3), math.MaxInt, 0, api.ErrArg},
		{full(3), 0, math.MinInt, api.ErrArg},
		{full(3), math.MinInt, math.MaxInt, api.ErrArg},
		{yard{1, nil}, 21, 0, api.ErrArg},
		{yard{1, loops(0, 15)}, 21, 0, api.ErrLimit},
		{yard{9, loops(0, 15)}, 21, 0, api.ErrArg},
	} {
		if v, e := fence.Value(c.n, c.fences, c.x, c.y); v != 0 || e != c.want {
			t.Error(c, v, e)
		}
	}
}

func TestSame(t *testing.T) {
	tail := append(around(0, 3), api.Fence{A: 2, B: 3})
	for _, c := range []struct {
		a, b yard
		want bool
	}{
		{yard{1, nil}, yard{1, nil}, true},
		{yard{1, nil}, yard{8, nil}, true},
		{yard{3, nil}, yard{3, loops(0, 1)}, false},
		{yard{2, around(0, 2)}, yard{2, around(0, 2)}, true},
		{yard{2, along(0, 2)}, yard{8, []api.Fence{{A: 7, B: 3}}}, true},
		{yard{2, along(0, 2)}, yard{1, loops(0, 1)}, false},
		{yard{3, around(0, 3)}, yard{3, along(0, 3)}, false},
		{yard{3, around(0, 3)}, parallel(3), false},
		{yard{4, tail}, yard{5, append(around(2, 3), api.Fence{A: 0, B: 1})}, true},
		{yard{4, tail}, yard{4, around(0, 4)}, false},
		// All trees of as many fences.
		{yard{4, along(0, 4)}, yard{4, []api.Fence{{A: 0, B: 1}, {A: 0, B: 2}, {A: 0, B: 3}}}, true},
		{yard{5, along(0, 5)}, yard{4, along(0, 4)}, false},
		{wheel(), wheel(), true},
		{wheel(), cube(), false},
		{full(5), full(4), false},
		{yard{1, loops(0, 14)}, yard{8, loops(7, 14)}, true},
		{yard{1, loops(0, 14)}, yard{1, loops(0, 13)}, false},
	} {
		for _, d := range [2][2]yard{{c.a, c.b}, {c.b, c.a}} {
			if ok, e := fence.Same(d[0].n, d[0].fences, d[1].n, d[1].fences); ok != c.want || e != api.OK {
				t.Error(d, ok, e)
			}
		}
	}
}

func TestSameByPolynomials(t *testing.T) {
	yards := many(65, 120, 5)
	got := map[bool]int{}
	for _, a := range yards {
		for _, b := range yards {
			want := a.coefficients() == b.coefficients()
			if ok, e := fence.Same(a.n, a.fences, b.n, b.fences); ok != want || e != api.OK {
				t.Fatal(a, b, ok, e)
			}
			got[want]++
		}
	}
	if min(got[true], got[false]) < 1000 {
		t.Error("too few gardens tried are the same, or not", got)
	}
}

func TestSameOfWrongGardens(t *testing.T) {
	for _, c := range wrong {
		good := full(3)
		if ok, e := fence.Same(good.n, good.fences, c.n, c.fences); ok || e != c.want {
			t.Error(c, ok, e)
		}
		for _, d := range wrong {
			if ok, e := fence.Same(c.n, c.fences, d.n, d.fences); ok || e != c.want {
				t.Error(c, d, ok, e)
			}
		}
	}
}

func TestTakenAwayAndClosed(t *testing.T) {
	tried := 0
	for _, y := range slices.Concat(known(), many(66, 40, api.MaxFences)) {
		for i, f := range y.fences {
			if f.A == f.B || y.isBridge(i) {
				continue
			}
			tried++
			away, closed := y.without(i), y.closing(i)
			for _, p := range [][2]int{{1, 1}, {0, 0}, {-3, 5}, {20, -20}} {
				v, e := fence.Value(y.n, y.fences, p[0], p[1])
				a, f := fence.Value(away.n, away.fences, p[0], p[1])
				b, g := fence.Value(closed.n, closed.fences, p[0], p[1])
				if v != a+b || e != api.OK || f != api.OK || g != api.OK {
					t.Fatal(y, i, p, v, a, b)
				}
			}
		}
	}
	if tried < 100 {
		t.Error("too few fences tried", tried)
	}
}

// TestLoopsAndBridges takes loops away, and closes bridges, anywhere in the list.
func TestLoopsAndBridges(t *testing.T) {
	for _, y := range slices.Concat(known(), many(67, 60, api.MaxFences)) {
		for i, f := range y.fences {
			for _, p := range [][2]int{{2, 3}, {-20, 19}, {0, 0}} {
				v, _ := fence.Value(y.n, y.fences, p[0], p[1])
				if f.A == f.B {
					left := y.without(i)
					if w, e := fence.Value(left.n, left.fences, p[0], p[1]); v != w*p[1] || e != api.OK {
						t.Fatal(y, i, p, v, w, e)
					}
				} else if y.isBridge(i) {
					left := y.closing(i)
					if w, e := fence.Value(left.n, left.fences, p[0], p[1]); v != w*p[0] || e != api.OK {
						t.Fatal(y, i, p, v, w, e)
					}
				}
			}
		}
	}
}

func TestJoinedAtAPost(t *testing.T) {
	rng := rand.New(rand.NewSource(68))
	for range 300 {
		a, b := some(rng, 4, 7), some(rng, 4, 7)
		for shared := range 2 {
			both := yard{a.n + b.n - shared, slices.Clone(a.fences)}
			for _, f := range b.fences {
				both.fences = append(both.fences, api.Fence{A: f.A + a.n - shared, B: f.B + a.n - shared})
			}
			for _, p := range [][2]int{{1, 1}, {0, 2}, {2, 0}, {3, -4}, {-20, 20}} {
				v, e := fence.Value(both.n, both.fences, p[0], p[1])
				l, f := fence.Polynomial(a.n, a.fences)
				m, g := fence.Polynomial(b.n, b.fences)
				want := valueOf(l, p[0], p[1])
				want.Mul(want, valueOf(m, p[0], p[1]))
				if want.Cmp(big.NewInt(int64(v))) != 0 || e != api.OK || f != api.OK || g != api.OK {
					t.Fatal(a, b, shared, p, v, want)
				}
			}
		}
	}
}

func TestOtherNumbersOrdersAndSides(t *testing.T) {
	rng := rand.New(rand.NewSource(69))
	for _, y := range slices.Concat(known(), many(70, 100, api.MaxFences)) {
		number := rng.Perm(y.n)
		other := yard{n: y.n}
		for _, i := range rng.Perm(len(y.fences)) {
			f := api.Fence{A: number[y.fences[i].A], B: number[y.fences[i].B]}
			if rng.Intn(2) == 0 {
				f.A, f.B = f.B, f.A
			}
			other.fences = append(other.fences, f)
		}
		if ok, e := fence.Same(y.n, y.fences, other.n, other.fences); !ok || e != api.OK {
			t.Fatal(y, other, ok, e)
		}
		l, _ := fence.Polynomial(y.n, y.fences)
		if m, e := fence.Polynomial(other.n, other.fences); !sameLists(l, m) || e != api.OK {
			t.Fatal(y, other, l, m, e)
		}
	}
}

func TestPolynomialsAreNewMemory(t *testing.T) {
	y := twoRings()
	first, _ := fence.Polynomial(y.n, y.fences)
	second, _ := fence.Polynomial(y.n, y.fences)
	for j := range first {
		for i := range first[j] {
			first[j][i] = -1
		}
		_ = append(first[j], -1, -1, -1, -1, -1, -1, -1, -1)
	}
	for j := range first {
		for _, k := range first[j] {
			if k != -1 {
				t.Fatal("lists of one result share memory", first)
			}
		}
	}
	if !sameLists(second, y.lists()) {
		t.Fatal("two results share memory", second)
	}
	bridges, _ := fence.Bridges(y.n, y.fences)
	bridges[0] = -1
	if again, e := fence.Bridges(y.n, y.fences); !slices.Equal(again, []int{3}) || e != api.OK {
		t.Fatal("two results share memory", again, e)
	}
}
