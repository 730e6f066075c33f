package fence_test

import (
	"math"
	"math/big"
	"math/rand"
	"slices"
	"testing"

	"dibber/api"
	"dibber/fence"
)

// fine are arguments that are allowed beside each garden.
func fine() further {
	return further{2, 3, 3, 3, api.Ratio{Num: 1, Den: 2}, full(3)}
}

func TestWrongGardens(t *testing.T) {
	bad := further{21, -21, 21, 0, api.Ratio{Num: 2, Den: 4}, yard{0, nil}}
	for _, c := range wrong {
		for _, f := range []further{fine(), bad} {
			for name, call := range c.calls(f) {
				if zero, e := call(); !zero || e != c.want {
					t.Error(name, c, f, zero, e)
				}
			}
		}
	}
}

func TestArgumentsStay(t *testing.T) {
	for _, y := range []yard{twoRings(), wheel(), full(5)} {
		before := slices.Clone(y.fences)
		f := fine()
		for range 2 {
			for name, call := range y.calls(f) {
				if _, e := call(); e != api.OK || !slices.Equal(y.fences, before) || !slices.Equal(f.other.fences, full(3).fences) {
					t.Fatal("an argument was changed", name, y, e)
				}
			}
		}
	}
}

func TestSameEachTime(t *testing.T) {
	y := wheel()
	want := y.lists()
	for range 30 {
		if l, e := fence.Polynomial(y.n, y.fences); !sameLists(l, want) || e != api.OK {
			t.Fatal(l, e)
		}
	}
}

// TestArgumentsAreNotKept changes a list after it was an argument.
func TestArgumentsAreNotKept(t *testing.T) {
	list := around(0, 3)
	l, _ := fence.Polynomial(3, list)
	list[0] = api.Fence{}
	if m, e := fence.Polynomial(3, list); !sameLists(l, [][]int{{0, 1, 1}, {1}}) || !sameLists(m, [][]int{{}, {0, 0, 1}}) || e != api.OK {
		t.Fatal(l, m, e)
	}
}

func TestBridgesAndGroups(t *testing.T) {
	for _, c := range []struct {
		yard
		bridges []int
		groups  int
	}{
		{yard{1, nil}, nil, 1},
		{yard{8, nil}, nil, 8},
		{yard{1, loops(0, 14)}, nil, 1},
		{yard{2, along(0, 2)}, []int{0}, 1},
		{yard{3, along(0, 2)}, []int{0}, 2},
		{parallel(2), nil, 1},
		{yard{8, along(0, 8)}, []int{0, 1, 2, 3, 4, 5, 6}, 1},
		{yard{8, append(loops(2, 7), along(0, 8)...)}, []int{7, 8, 9, 10, 11, 12, 13}, 1},
		{yard{8, around(0, 8)}, nil, 1},
		{twoRings(), []int{3}, 2},
		{yard{4, []api.Fence{{A: 3, B: 2}, {A: 1, B: 0}}}, []int{0, 1}, 2},
		{yard{4, []api.Fence{{A: 3, B: 2}, {A: 1, B: 0}, {A: 2, B: 3}}}, []int{1}, 2},
		{yard{4, []api.Fence{{A: 3, B: 2}, {A: 1, B: 0}, {A: 0, B: 3}}}, []int{0, 1, 2}, 1},
	} {
		if l, e := fence.Bridges(c.n, c.fences); !slices.Equal(l, c.bridges) || e != api.OK {
			t.Error(c, l, e)
		}
		if k, e := fence.Groups(c.n, c.fences); k != c.groups || e != api.OK {
			t.Error(c, k, e)
		}
	}
	for _, y := range slices.Concat(small(), many(71, 1000, api.MaxFences), known()) {
		var want []int
		for i := range y.fences {
			if y.isBridge(i) {
				want = append(want, i)
			}
		}
		if l, e := fence.Bridges(y.n, y.fences); !slices.Equal(l, want) || e != api.OK {
			t.Fatal(y, l, e, want)
		}
		if k, e := fence.Groups(y.n, y.fences); k != y.groups() || e != api.OK {
			t.Fatal(y, k, e)
		}
	}
}

// eachList calls visit with all lists of so many numbers from low to high - 1.
func eachList(length, low, high int, visit func([]int)) {
	list := slices.Repeat([]int{low}, length)
	for high > low || length == 0 {
		visit(list)
		i := 0
		for i < length && list[i] == high-1 {
			list[i] = low
			i++
		}
		if i == length {
			return
		}
		list[i]++
	}
}

func (y yard) colourings(colours int) int {
	out := 0
	eachList(y.n, 0, colours, func(list []int) {
		if !slices.ContainsFunc(y.fences, func(f api.Fence) bool { return list[f.A] == list[f.B] }) {
			out++
		}
	})
	return out
}

func (y yard) flows(turns int) int {
	out := 0
	eachList(len(y.fences), 1, turns, func(list []int) {
		var more [api.MaxPosts]int
		for i, f := range y.fences {
			more[f.A] += list[i]
			more[f.B] -= list[i]
		}
		if !slices.ContainsFunc(more[:], func(k int) bool { return k%turns != 0 }) {
			out++
		}
	})
	return out
}

func wantColourings(t *testing.T, y yard, colours, want int) {
	t.Helper()
	if k, e := fence.Colourings(y.n, y.fences, colours); k != want || e != api.OK {
		t.Fatal(y, colours, k, e, want)
	}
}

func wantFlows(t *testing.T, y yard, turns, want int) {
	t.Helper()
	if k, e := fence.Flows(y.n, y.fences, turns); k != want || e != api.OK {
		t.Fatal(y, turns, k, e, want)
	}
}

func TestColouringsAndFlowsByAllLists(t *testing.T) {
	rng := rand.New(rand.NewSource(72))
	for _, y := range small() {
		for k := range 4 {
			wantColourings(t, y, k, y.colourings(k))
			wantFlows(t, y, k+1, y.flows(k+1))
		}
	}
	for range 150 {
		y := some(rng, 5, 6)
		for k := range 6 {
			wantColourings(t, y, k, y.colourings(k))
			wantFlows(t, y, k+1, y.flows(k+1))
		}
	}
	for _, y := range many(73, 20, api.MaxFences) {
		wantColourings(t, y, 3, y.colourings(3))
		wantFlows(t, y, 2, y.flows(2))
	}
}

func TestColourings(t *testing.T) {
	for _, c := range []struct {
		yard
		colours, want int
	}{
		{yard{1, nil}, 0, 0},
		{yard{1, nil}, 20, 20},
		{yard{8, nil}, 0, 0},
		{yard{8, nil}, 20, 25600000000},
		{yard{3, around(0, 3)}, 3, 6},
		{yard{3, around(0, 3)}, 2, 0},
		{yard{1, loops(0, 1)}, 20, 0},
		{yard{8, append(along(0, 8), loops(5, 1)...)}, 20, 0},
		{yard{8, along(0, 8)}, 20, 20 * 893871739},
		{yard{8, along(0, 8)}, 1, 0},
		{yard{8, along(0, 8)}, 2, 2},
		{parallel(14), 20, 380},
		{full(5), 20, 20 * 19 * 18 * 17 * 16},
		{full(5), 4, 0},
		{full(5), 5, 120},
		// The ring of seven has 18 fewer than 18^7, with 19 colours, for each of the post in the middle.
		{wheel(), 20, 20 * (612220032 - 18)},
		{wheel(), 3, 0},
	} {
		wantColourings(t, c.yard, c.colours, c.want)
	}
	for _, colours := range []int{-1, 21, math.MinInt, math.MaxInt} {
		for _, y := range []yard{full(3), {1, nil}, {1, loops(0, 1)}} {
			if k, e := fence.Colourings(y.n, y.fences, colours); k != 0 || e != api.ErrArg {
				t.Error(y, colours, k, e)
			}
		}
	}
}

func TestFlows(t *testing.T) {
	most := 1
	for range api.MaxFences {
		most *= 19
	}
	for _, c := range []struct {
		yard
		turns, want int
	}{
		{yard{1, nil}, 1, 1},
		{yard{8, nil}, 20, 1},
		{yard{1, loops(0, 1)}, 1, 0},
		{yard{1, loops(0, 1)}, 2, 1},
		{yard{1, loops(0, 14)}, 20, most},
		{yard{3, around(0, 3)}, 1, 0},
		{yard{3, around(0, 3)}, 3, 2},
		{yard{3, around(0, 3)}, 20, 19},
		{yard{2, along(0, 2)}, 20, 0},
		{twoRings(), 20, 0},
		{parallel(2), 20, 19},
		{parallel(3), 2, 0},
		{parallel(3), 20, 19 * 18},
		{full(4), 3, 0},
		{full(4), 4, 6},
		{full(5), 2, 1},
		{wheel(), 20, 612220032 - 18},
		{wheel(), 1, 0},
	} {
		wantFlows(t, c.yard, c.turns, c.want)
	}
	for _, turns := range []int{0, -1, 21, math.MinInt, math.MaxInt} {
		for _, y := range []yard{full(3), {1, nil}, {2, along(0, 2)}} {
			if k, e := fence.Flows(y.n, y.fences, turns); k != 0 || e != api.ErrArg {
				t.Error(y, turns, k, e)
			}
		}
	}
}

// counts are the numbers of trees, forests and whole sets, by all sets.
func (y yard) counts() [3]int {
	var out [3]int
	all, least := y.hang(), len(y.fences)
	for set := range y.sets() {
		part := y.subset(set)
		if !part.hasRing() {
			out[1]++
		}
		if part.hang() != all {
			continue
		}
		out[2]++
		if len(part.fences) < least {
			out[0], least = 0, len(part.fences)
		}
		if len(part.fences) == least {
			out[0]++
		}
	}
	return out
}

func wantCounts(t *testing.T, y yard, want [3]int) {
	t.Helper()
	trees, e := fence.Trees(y.n, y.fences)
	forests, f := fence.Forests(y.n, y.fences)
	whole, g := fence.Whole(y.n, y.fences)
	if [3]int{trees, forests, whole} != want || e != api.OK || f != api.OK || g != api.OK {
		t.Fatal(y, trees, forests, whole, e, f, g, want)
	}
}

func TestTreesForestsAndWhole(t *testing.T) {
	for _, c := range []struct {
		yard
		want [3]int
	}{
		{yard{1, nil}, [3]int{1, 1, 1}},
		{yard{8, nil}, [3]int{1, 1, 1}},
		{yard{1, loops(0, 14)}, [3]int{1, 1, 1 << 14}},
		{yard{8, along(0, 8)}, [3]int{1, 1 << 7, 1}},
		{yard{3, around(0, 3)}, [3]int{3, 7, 4}},
		{yard{8, around(0, 8)}, [3]int{8, 255, 9}},
		{parallel(14), [3]int{14, 15, 1<<14 - 1}},
		{twoRings(), [3]int{12, 210, 40}},
		{full(4), [3]int{16, 38, 38}},
		{full(5), [3]int{125, 291, 728}},
	} {
		wantCounts(t, c.yard, c.want)
	}
	for _, c := range []struct {
		yard
		want int
	}{{cube(), 384}, {wheel(), 841}} {
		if trees, e := fence.Trees(c.n, c.fences); trees != c.want || e != api.OK {
			t.Error(c, trees, e)
		}
	}
}

func TestTreesForestsAndWholeByAllSets(t *testing.T) {
	for _, y := range slices.Concat(small(), many(74, 200, 8), many(75, 4, 12)) {
		wantCounts(t, y, y.counts())
	}
}

// stands adds up how likely each set of fences is by which the posts hang together as they do by all.
func (y yard) stands(p api.Ratio) *big.Rat {
	out := new(big.Rat)
	falls := new(big.Rat).Sub(big.NewRat(1, 1), rational(p))
	all := y.hang()
	for set := range y.sets() {
		part := y.subset(set)
		if part.hang() == all {
			chance := raised(rational(p), len(part.fences))
			out.Add(out, chance.Mul(chance, raised(falls, len(y.fences)-len(part.fences))))
		}
	}
	return out
}

func wantStands(t *testing.T, y yard, p, want api.Ratio) {
	t.Helper()
	if r, e := fence.Stands(y.n, y.fences, p); r != want || e != api.OK {
		t.Fatal(y, p, r, e, want)
	}
}

func TestStands(t *testing.T) {
	half, none, sure := api.Ratio{Num: 1, Den: 2}, api.Ratio{Num: 0, Den: 1}, api.Ratio{Num: 1, Den: 1}
	for _, c := range []struct {
		yard
		p, want api.Ratio
	}{
		{parallel(2), half, api.Ratio{Num: 3, Den: 4}},
		{yard{3, around(0, 3)}, half, half},
		{yard{2, along(0, 2)}, api.Ratio{Num: 5, Den: 7}, api.Ratio{Num: 5, Den: 7}},
		{yard{8, along(0, 8)}, api.Ratio{Num: 7, Den: 8}, api.Ratio{Num: 823543, Den: 2097152}},
		{yard{1, loops(0, 14)}, half, sure},
		{yard{1, loops(0, 14)}, none, sure},
		{yard{8, nil}, none, sure},
		{yard{8, nil}, api.Ratio{Num: 3, Den: 8}, sure},
		{wheel(), none, none},
		{wheel(), sure, sure},
		{parallel(14), api.Ratio{Num: 1, Den: 8}, api.Ratio{Num: 1<<42 - 678223072849, Den: 1 << 42}},
		{parallel(14), api.Ratio{Num: 7, Den: 8}, api.Ratio{Num: 1<<42 - 1, Den: 1 << 42}},
		{yard{2, append(along(0, 2), loops(0, 13)...)}, none, none},
	} {
		wantStands(t, c.yard, c.p, c.want)
	}
}

func TestStandsByAllSets(t *testing.T) {
	for _, y := range append(many(76, 30, 7), small()[:200]...) {
		for _, p := range chances() {
			wantStands(t, y, p, ratio(y.stands(p)))
		}
	}
	for _, y := range append(many(77, 3, 12), twoRings(), cube()) {
		p := api.Ratio{Num: 3, Den: 7}
		wantStands(t, y, p, ratio(y.stands(p)))
	}
}

func TestStandsOfWrongChances(t *testing.T) {
	for _, p := range []api.Ratio{
		{}, {Num: 1, Den: 0}, {Num: 1, Den: -1}, {Num: -1, Den: -1}, {Num: 0, Den: -1}, {Num: -1, Den: -2},
		{Num: 2, Den: 4}, {Num: 0, Den: 2}, {Num: 0, Den: 8}, {Num: 2, Den: 2}, {Num: 8, Den: 8}, {Num: 6, Den: 8}, {Num: 3, Den: 6},
		{Num: -1, Den: 2}, {Num: -1, Den: 1}, {Num: 2, Den: 1}, {Num: 3, Den: 2}, {Num: 9, Den: 8}, {Num: 1, Den: 9}, {Num: 8, Den: 9},
		{Num: math.MaxInt, Den: math.MaxInt}, {Num: math.MinInt, Den: 1}, {Num: 1, Den: math.MinInt}, {Num: math.MinInt, Den: math.MinInt},
		{Num: math.MaxInt, Den: 8}, {Num: math.MinInt, Den: -1}, {Num: 1, Den: math.MaxInt},
	} {
		for _, y := range []yard{full(3), {1, nil}} {
			if r, e := fence.Stands(y.n, y.fences, p); r != (api.Ratio{}) || e != api.ErrArg {
				t.Error(y, p, r, e)
			}
		}
	}
}

// gates tries all directions: in how many there is no ring along them, and in how many each fence is in one.
func (y yard) gates() (none, all int) {
	for set := range y.sets() {
		turned := yard{y.n, slices.Clone(y.fences)}
		for i, f := range y.fences {
			if set>>i&1 == 1 {
				turned.fences[i] = api.Fence{A: f.B, B: f.A}
			}
		}
		rings := 0
		for _, f := range turned.fences {
			if turned.reach(f.B, false)[f.A] {
				rings++
			}
		}
		if rings == 0 {
			none++
		}
		if rings == len(y.fences) {
			all++
		}
	}
	return none, all
}

func wantGates(t *testing.T, y yard, none, all int) {
	t.Helper()
	if a, b, e := fence.Gates(y.n, y.fences); a != none || b != all || e != api.OK {
		t.Fatal(y, a, b, e, none, all)
	}
}

func TestGates(t *testing.T) {
	for _, c := range []struct {
		yard
		none, all int
	}{
		{yard{1, nil}, 1, 1},
		{yard{8, nil}, 1, 1},
		{yard{3, around(0, 3)}, 6, 2},
		{yard{1, loops(0, 1)}, 0, 2},
		{yard{1, loops(0, 14)}, 0, 1 << 14},
		{yard{2, along(0, 2)}, 2, 0},
		{yard{8, along(0, 8)}, 128, 0},
		{yard{8, append(along(0, 8), loops(2, 1)...)}, 0, 0},
		{parallel(2), 2, 2},
		{parallel(14), 2, 1<<14 - 2},
		{yard{8, around(0, 8)}, 254, 2},
		{full(4), 24, 24},
		{full(5), 120, 544},
		{wheel(), 2184, 2184},
	} {
		wantGates(t, c.yard, c.none, c.all)
	}
	for _, y := range slices.Concat(small(), many(78, 200, 8), many(79, 4, 12)) {
		none, all := y.gates()
		wantGates(t, y, none, all)
	}
}

// value is that of the polynomial, which is compared with other functions.
func (y yard) value(t *testing.T, a, b int) int {
	t.Helper()
	v, e := fence.Value(y.n, y.fences, a, b)
	if e != api.OK {
		t.Fatal(y, a, b, e)
	}
	return v
}

func sign(exponent int) int {
	return 1 - 2*(exponent%2)
}

func TestTheoremsOfTutteAndStanley(t *testing.T) {
	for _, y := range slices.Concat(known(), many(80, 40, api.MaxFences)) {
		c, e := fence.Groups(y.n, y.fences)
		if e != api.OK {
			t.Fatal(y, c, e)
		}
		joins, spare := y.n-c, len(y.fences)-y.n+c
		for q := range api.MaxPoint + 1 {
			if q > 0 {
				wantFlows(t, y, q, sign(spare)*y.value(t, 0, 1-q))
			}
			colourings := sign(joins) * y.value(t, 1-q, 0)
			for range c {
				colourings *= q
			}
			wantColourings(t, y, q, colourings)
		}
		wantCounts(t, y, [3]int{y.value(t, 1, 1), y.value(t, 2, 1), y.value(t, 1, 2)})
		if v := y.value(t, 2, 2); v != y.sets() {
			t.Fatal(y, v)
		}
		wantGates(t, y, y.value(t, 2, 0), y.value(t, 0, 2))
	}
}

func TestTheoremOfStands(t *testing.T) {
	for _, y := range slices.Concat(known(), many(81, 40, api.MaxFences)) {
		before := new(big.Rat)
		single := y.groups() == y.n
		for i, p := range chances() {
			r, e := fence.Stands(y.n, y.fences, p)
			if e != api.OK {
				t.Fatal(y, p, r, e)
			}
			now := rational(r)
			if i > 0 && !single && now.Cmp(before) <= 0 || single && r != (api.Ratio{Num: 1, Den: 1}) {
				t.Fatal(y, p, r, before)
			}
			before = now
			switch {
			case p.Num == 0:
				if !single && r != (api.Ratio{Num: 0, Den: 1}) {
					t.Fatal(y, p, r)
				}
			case p.Num == p.Den:
				if r != (api.Ratio{Num: 1, Den: 1}) {
					t.Fatal(y, p, r)
				}
			default:
				if want := y.standsByValue(p); now.Cmp(want) != 0 {
					t.Fatal(y, p, r, want)
				}
			}
		}
	}
}

// standsByValue takes the polynomial at 1 and 1 / (1 - p).
func (y yard) standsByValue(p api.Ratio) *big.Rat {
	joins := y.n - y.groups()
	falls := new(big.Rat).Sub(big.NewRat(1, 1), rational(p))
	lists, _ := fence.Polynomial(y.n, y.fences)
	out := new(big.Rat)
	for j, list := range lists {
		for _, k := range list {
			term := raised(new(big.Rat).Inv(falls), j)
			out.Add(out, term.Mul(term, big.NewRat(int64(k), 1)))
		}
	}
	out.Mul(out, raised(rational(p), joins))
	return out.Mul(out, raised(falls, len(y.fences)-joins))
}
