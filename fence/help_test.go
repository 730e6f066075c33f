package fence_test

import (
	"math"
	"math/big"
	"math/rand"
	"slices"

	"dibber/api"
	"dibber/fence"
)

// yard is a garden: its posts and its fences.
type yard struct {
	n      int
	fences []api.Fence
}

// around joins some posts in a ring, the first of which has the number first.
func around(first, posts int) []api.Fence {
	var out []api.Fence
	for i := range posts {
		out = append(out, api.Fence{A: first + i, B: first + (i+1)%posts})
	}
	return out
}

// along joins some posts in a row.
func along(first, posts int) []api.Fence {
	return around(first, posts)[:posts-1]
}

// full has a fence between any two posts.
func full(posts int) yard {
	out := yard{n: posts}
	for a := range posts {
		for b := range a {
			out.fences = append(out.fences, api.Fence{A: a, B: b})
		}
	}
	return out
}

// loops are fences from the post to itself.
func loops(post, count int) []api.Fence {
	return slices.Repeat([]api.Fence{{A: post, B: post}}, count)
}

// wheel has seven posts around another one: its polynomial is the same with x and y exchanged.
func wheel() yard {
	out := yard{8, around(1, 7)}
	for post := 1; post < 8; post++ {
		out.fences = append(out.fences, api.Fence{A: 0, B: post})
	}
	return out
}

// cube has eight posts, each with three fences.
func cube() yard {
	out := yard{8, slices.Concat(around(0, 4), around(4, 4))}
	for post := range 4 {
		out.fences = append(out.fences, api.Fence{A: post, B: post + 4})
	}
	return out
}

// parallel has fences that all join the same two posts, in both directions.
func parallel(count int) yard {
	out := yard{n: 2}
	for i := range count {
		out.fences = append(out.fences, api.Fence{A: i % 2, B: 1 - i%2})
	}
	return out
}

// twoRings is two rings, a bridge between them, a loop and a post by itself.
func twoRings() yard {
	return yard{8, slices.Concat(around(0, 3), []api.Fence{{A: 2, B: 3}}, around(3, 4), loops(5, 1))}
}

// known are gardens of many kinds, up to the limits.
func known() []yard {
	return []yard{
		{1, nil}, {8, nil}, {1, loops(0, 1)}, {1, loops(0, 14)}, {8, loops(7, 3)},
		{2, around(0, 2)[:1]}, parallel(2), parallel(3), parallel(14), {3, around(0, 3)}, {8, around(0, 8)}, {8, along(0, 8)},
		{8, append(along(0, 8), loops(7, 7)...)}, twoRings(), full(4), full(5), cube(), wheel(),
		{8, slices.Concat(full(5).fences, along(4, 4), loops(7, 1))},
		{6, full(6).fences[1:]},
	}
}

// small are all gardens of up to three posts with up to three fences, in any order and with any sides.
func small() []yard {
	var out []yard
	for n := 1; n <= 3; n++ {
		var all []api.Fence
		for i := range n * n {
			all = append(all, api.Fence{A: i / n, B: i % n})
		}
		lists := [][]api.Fence{nil}
		for range 4 {
			var longer [][]api.Fence
			for _, l := range lists {
				out = append(out, yard{n, l})
				for _, f := range all {
					longer = append(longer, append(slices.Clone(l), f))
				}
			}
			lists = longer
		}
	}
	return out
}

// some is a garden at random, of so many posts and fences at most; few of the fences are loops.
func some(rng *rand.Rand, posts, fences int) yard {
	out := yard{n: 1 + rng.Intn(posts)}
	for range rng.Intn(fences + 1) {
		f := api.Fence{A: rng.Intn(out.n), B: rng.Intn(out.n)}
		if f.A == f.B {
			f.B = rng.Intn(out.n)
		}
		out.fences = append(out.fences, f)
	}
	return out
}

// many are gardens of up to eight posts with so many fences at most.
func many(seed int64, count, fences int) []yard {
	rng := rand.New(rand.NewSource(seed))
	var out []yard
	for range count {
		out = append(out, some(rng, api.MaxPosts, fences))
	}
	return out
}

// sets are all subsets of the fences of a garden, as bits.
func (y yard) sets() int {
	return 1 << len(y.fences)
}

func (y yard) subset(set int) yard {
	out := yard{n: y.n}
	for i, f := range y.fences {
		if set>>i&1 == 1 {
			out.fences = append(out.fences, f)
		}
	}
	return out
}

func (y yard) without(index int) yard {
	return yard{y.n, slices.Delete(slices.Clone(y.fences), index, index+1)}
}

// closing makes one post of the two that a fence joins, with the numbers of the posts above one less.
func (y yard) closing(index int) yard {
	low, high := min(y.fences[index].A, y.fences[index].B), max(y.fences[index].A, y.fences[index].B)
	number := func(post int) int {
		if post == high {
			return low
		}
		if post > high {
			return post - 1
		}
		return post
	}
	out := yard{n: y.n - 1}
	for _, f := range y.without(index).fences {
		out.fences = append(out.fences, api.Fence{A: number(f.A), B: number(f.B)})
	}
	return out
}

// reach is what posts one can come to from one, gone along fences from A to B, and also back if both is set.
func (y yard) reach(from int, both bool) [api.MaxPosts]bool {
	var out [api.MaxPosts]bool
	out[from] = true
	for range y.n {
		for _, f := range y.fences {
			out[f.B] = out[f.B] || out[f.A]
			out[f.A] = out[f.A] || both && out[f.B]
		}
	}
	return out
}

// hang tells of each post which ones it hangs together with.
func (y yard) hang() [api.MaxPosts][api.MaxPosts]bool {
	var out [api.MaxPosts][api.MaxPosts]bool
	for post := range y.n {
		out[post] = y.reach(post, true)
	}
	return out
}

func (y yard) groups() int {
	seen := map[[api.MaxPosts]bool]bool{}
	for _, with := range y.hang() {
		seen[with] = true
	}
	delete(seen, [api.MaxPosts]bool{})
	return len(seen)
}

func (y yard) isBridge(index int) bool {
	f := y.fences[index]
	return !y.without(index).reach(f.A, true)[f.B]
}

// hasRing reports whether the posts of a fence also hang together without it.
func (y yard) hasRing() bool {
	for i := range y.fences {
		if !y.isBridge(i) {
			return true
		}
	}
	return false
}

// coefficients are those of the polynomial, of x^i y^j at [j][i]. It is also the sum, over all sets of fences, of
// (x - 1)^(groups more than by all fences) (y - 1)^(fences more than join anything).
func (y yard) coefficients() [api.MaxFences + 1][api.MaxPosts]int {
	var out [api.MaxFences + 1][api.MaxPosts]int
	groups := y.groups()
	for set := range y.sets() {
		part := y.subset(set)
		c := part.groups()
		more, spare := c-groups, len(part.fences)-y.n+c
		for j := range spare + 1 {
			for i := range more + 1 {
				k := binomial(more, i) * binomial(spare, j)
				if (more-i+spare-j)%2 != 0 {
					k = -k
				}
				out[j][i] += k
			}
		}
	}
	return out
}

func binomial(n, k int) int {
	return int(new(big.Int).Binomial(int64(n), int64(k)).Int64())
}

// lists are the coefficients as the chapter tells them.
func (y yard) lists() [][]int {
	var out [][]int
	for j, row := range y.coefficients() {
		for i, k := range row {
			if k == 0 {
				continue
			}
			for len(out) <= j {
				out = append(out, nil)
			}
			for len(out[j]) <= i {
				out[j] = append(out[j], 0)
			}
			out[j][i] = k
		}
	}
	return out
}

// valueOf is the value of a polynomial that is told as the chapter does.
func valueOf(lists [][]int, x, y int) *big.Int {
	out := new(big.Int)
	for j, list := range lists {
		for i, k := range list {
			term := new(big.Int).Mul(power(x, i), power(y, j))
			out.Add(out, term.Mul(term, big.NewInt(int64(k))))
		}
	}
	return out
}

func power(base, exponent int) *big.Int {
	return new(big.Int).Exp(big.NewInt(int64(base)), big.NewInt(int64(exponent)), nil)
}

func sameLists(a, b [][]int) bool {
	return slices.EqualFunc(a, b, slices.Equal)
}

// chances are all probabilities that Stands allows, ascending.
func chances() []api.Ratio {
	var out []api.Ratio
	for den := 1; den <= api.MaxDen; den++ {
		for num := range den + 1 {
			if r := big.NewRat(int64(num), int64(den)); r.Denom().Int64() == int64(den) {
				out = append(out, api.Ratio{Num: num, Den: den})
			}
		}
	}
	slices.SortFunc(out, func(a, b api.Ratio) int { return rational(a).Cmp(rational(b)) })
	return out
}

func rational(r api.Ratio) *big.Rat {
	return big.NewRat(int64(r.Num), int64(r.Den))
}

// raised is a big ratio to a power; 1 if the exponent is 0.
func raised(r *big.Rat, exponent int) *big.Rat {
	out := big.NewRat(1, 1)
	for range exponent {
		out.Mul(out, r)
	}
	return out
}

// ratio is a big one as the package returns it, in lowest terms.
func ratio(r *big.Rat) api.Ratio {
	return api.Ratio{Num: int(r.Num().Int64()), Den: int(r.Denom().Int64())}
}

// wrong are gardens that are not valid, with their errors.
var wrong = []struct {
	yard
	want api.Errno
}{
	{yard{0, nil}, api.ErrArg},
	{yard{-1, nil}, api.ErrArg},
	{yard{9, nil}, api.ErrArg},
	{yard{math.MinInt, nil}, api.ErrArg},
	{yard{math.MaxInt, nil}, api.ErrArg},
	{yard{0, loops(0, 1)}, api.ErrArg},
	{yard{9, loops(8, 1)}, api.ErrArg},
	{yard{0, loops(0, 15)}, api.ErrArg},
	{yard{9, loops(0, 15)}, api.ErrArg},
	{yard{1, loops(0, 15)}, api.ErrLimit},
	{yard{8, loops(7, 100)}, api.ErrLimit},
	{yard{8, loops(8, 15)}, api.ErrLimit},
	{yard{8, loops(-1, 15)}, api.ErrLimit},
	{yard{8, loops(8, 14)}, api.ErrArg},
	{yard{1, loops(1, 1)}, api.ErrArg},
	{yard{1, loops(-1, 1)}, api.ErrArg},
	{yard{3, []api.Fence{{A: 0, B: 3}}}, api.ErrArg},
	{yard{3, []api.Fence{{A: 3, B: 0}}}, api.ErrArg},
	{yard{3, []api.Fence{{A: 0, B: -1}}}, api.ErrArg},
	{yard{3, []api.Fence{{A: -1, B: 0}}}, api.ErrArg},
	{yard{8, append(loops(0, 13), api.Fence{A: 7, B: 8})}, api.ErrArg},
	{yard{8, []api.Fence{{A: math.MinInt, B: math.MaxInt}}}, api.ErrArg},
	{yard{8, []api.Fence{{A: math.MaxInt, B: math.MinInt}}}, api.ErrArg},
}

// further are the arguments beside a garden.
type further struct {
	x, y, colours, turns int
	chance               api.Ratio
	other                yard
}

// calls are all functions of the package, told whether all results beside the error are zero.
func (y yard) calls(f further) map[string]func() (bool, api.Errno) {
	n, fences := y.n, y.fences
	return map[string]func() (bool, api.Errno){
		"Polynomial": func() (bool, api.Errno) { l, e := fence.Polynomial(n, fences); return len(l) == 0, e },
		"Value":      func() (bool, api.Errno) { v, e := fence.Value(n, fences, f.x, f.y); return v == 0, e },
		"Bridges":    func() (bool, api.Errno) { l, e := fence.Bridges(n, fences); return len(l) == 0, e },
		"Groups":     func() (bool, api.Errno) { k, e := fence.Groups(n, fences); return k == 0, e },
		"Colourings": func() (bool, api.Errno) { k, e := fence.Colourings(n, fences, f.colours); return k == 0, e },
		"Flows":      func() (bool, api.Errno) { k, e := fence.Flows(n, fences, f.turns); return k == 0, e },
		"Trees":      func() (bool, api.Errno) { k, e := fence.Trees(n, fences); return k == 0, e },
		"Forests":    func() (bool, api.Errno) { k, e := fence.Forests(n, fences); return k == 0, e },
		"Whole":      func() (bool, api.Errno) { k, e := fence.Whole(n, fences); return k == 0, e },
		"Stands":     func() (bool, api.Errno) { r, e := fence.Stands(n, fences, f.chance); return r == api.Ratio{}, e },
		"Gates":      func() (bool, api.Errno) { a, b, e := fence.Gates(n, fences); return a == 0 && b == 0, e },
		"Same": func() (bool, api.Errno) {
			ok, e := fence.Same(n, fences, f.other.n, f.other.fences)
			return !ok, e
		},
	}
}
