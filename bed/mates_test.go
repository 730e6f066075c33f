package bed_test

import (
	"math/rand"
	"reflect"
	"slices"
	"testing"

	"dibber/api"
	"dibber/bed"
)

// transversalsOf are the transversals of a full bed, in lexicographic order.
func transversalsOf(b [][]int) [][]int {
	var out [][]int
	for _, columns := range orders(len(b)) {
		crops := map[int]bool{}
		for r, c := range columns {
			crops[b[r][c]] = true
		}
		if len(crops) == len(b) {
			out = append(out, columns)
		}
	}
	return out
}

// parts reports whether the places of a full bed can be parted into transversals.
func parts(b [][]int) bool {
	all := transversalsOf(b)
	n := len(b)
	var choose func(chosen [][]int) bool
	choose = func(chosen [][]int) bool {
		if len(chosen) == n {
			return true
		}
		for _, l := range all {
			if l[0] != len(chosen) {
				continue
			}
			apart := true
			for _, other := range chosen {
				for r := range n {
					apart = apart && other[r] != l[r]
				}
			}
			if apart && choose(append(slices.Clone(chosen), l)) {
				return true
			}
		}
		return false
	}
	return choose(nil)
}

func areMates(a, b [][]int) bool {
	pairs := map[[2]int]bool{}
	for r := range a {
		for c := range a {
			pairs[[2]int{a[r][c], b[r][c]}] = true
		}
	}
	return len(pairs) == len(a)*len(a)
}

func TestTransversals(t *testing.T) {
	for _, c := range []struct {
		bed   [][]int
		least []int
		count int
	}{
		{[][]int{{0}}, []int{0}, 1},
		{[][]int{{0, 1}, {1, 0}}, nil, 0},
		{three, []int{0, 1, 2}, 3},
		{klein, []int{0, 2, 3, 1}, 8},
		{cyclic(4, 1), nil, 0},
		{cyclic(5, 1), []int{0, 1, 2, 3, 4}, 15},
		{cyclic(6, 1), nil, 0},
		{cyclic(7, 1), []int{0, 1, 2, 3, 4, 5, 6}, 133},
	} {
		want := api.OK
		if c.count == 0 {
			want = api.ErrPlan
		}
		if l, e := bed.Transversal(c.bed); !slices.Equal(l, c.least) || e != want {
			t.Error(c, l, e)
		}
		if n, e := bed.Transversals(c.bed); n != c.count || e != api.OK {
			t.Error(c, n, e)
		}
	}
}

func TestTransversalsOfRandomBeds(t *testing.T) {
	rng := rand.New(rand.NewSource(21))
	for range 200 {
		b := someFull(rng, 1+rng.Intn(api.MaxCrops))
		all := transversalsOf(b)
		if n, e := bed.Transversals(b); n != len(all) || e != api.OK {
			t.Fatal(b, n, e)
		}
		l, e := bed.Transversal(b)
		if len(all) == 0 && e != api.ErrPlan || len(all) > 0 && (e != api.OK || !slices.Equal(l, all[0])) {
			t.Fatal(b, l, e)
		}
	}
}

func TestMates(t *testing.T) {
	for _, c := range []struct {
		a, b [][]int
		want bool
	}{
		{[][]int{{0}}, [][]int{{0}}, true},
		{[][]int{{0, 1}, {1, 0}}, [][]int{{0, 1}, {1, 0}}, false},
		{three, three, false},
		{three, [][]int{{0, 1, 2}, {2, 0, 1}, {1, 2, 0}}, true},
		{three, [][]int{{2, 0, 1}, {1, 2, 0}, {0, 1, 2}}, true},
		{cyclic(7, 2), cyclic(7, 5), true},
		{cyclic(6, 1), cyclic(6, 5), false},
	} {
		if ok, e := bed.Mates(c.a, c.b); ok != c.want || e != api.OK {
			t.Error(c, ok, e)
		}
		if ok, e := bed.Mates(c.b, c.a); ok != c.want || e != api.OK {
			t.Error(c, ok, e)
		}
	}
	if ok, e := bed.Mates(three, klein); ok || e != api.ErrArg {
		t.Error(ok, e)
	}
	if ok, e := bed.Mates(klein, [][]int{{0}}); ok || e != api.ErrArg {
		t.Error(ok, e)
	}
}

func TestMateExamples(t *testing.T) {
	for _, c := range []struct{ bed, want [][]int }{
		{[][]int{{0}}, [][]int{{0}}},
		{[][]int{{0, 1}, {1, 0}}, nil},
		{three, [][]int{{0, 1, 2}, {2, 0, 1}, {1, 2, 0}}},
		{klein, [][]int{{0, 1, 2, 3}, {2, 3, 0, 1}, {3, 2, 1, 0}, {1, 0, 3, 2}}},
		{cyclic(4, 1), nil},
		{cyclic(5, 1), cyclic(5, 2)},
	} {
		want := api.OK
		if c.want == nil {
			want = api.ErrPlan
		}
		if l, e := bed.Mate(c.bed); !reflect.DeepEqual(l, c.want) || e != want {
			t.Error(c, l, e)
		}
	}
	for n := api.MaxMated + 1; n <= api.MaxCrops; n++ {
		if l, e := bed.Mate(cyclic(n, 1)); l != nil || e != api.ErrArg {
			t.Error(n, l, e)
		}
	}
}

// A mate is there exactly if the places can be parted into transversals, and it is the least one.
func TestMateOfAllBeds(t *testing.T) {
	rng := rand.New(rand.NewSource(22))
	for n := 1; n <= 4; n++ {
		all := allFilled(empty(n))
		for _, b := range all {
			if n == 4 && rng.Intn(8) > 0 {
				continue
			}
			l, e := bed.Mate(b)
			i := slices.IndexFunc(all, func(m [][]int) bool { return areMates(b, m) })
			if i < 0 && e != api.ErrPlan || i >= 0 && (e != api.OK || !reflect.DeepEqual(l, all[i])) {
				t.Fatal(b, l, e)
			}
			if (e == api.OK) != parts(b) {
				t.Fatal(b, e)
			}
		}
	}
}

func TestMateOfRandomBedsOfFive(t *testing.T) {
	rng := rand.New(rand.NewSource(23))
	first := empty(5)
	first[0] = []int{0, 1, 2, 3, 4}
	all := allFilled(first)
	with, without := 0, 0
	for range 60 {
		b := someFull(rng, 5)
		if with == 0 {
			b = scrambled(rng, cyclic(5, 3))
		}
		l, e := bed.Mate(b)
		if (e == api.OK) != parts(b) {
			t.Fatal(b, e)
		}
		i := slices.IndexFunc(all, func(m [][]int) bool { return areMates(b, m) })
		if i < 0 {
			without++
			continue
		}
		with++
		if !reflect.DeepEqual(l, all[i]) {
			t.Fatal(b, l, e)
		}
		if ok, _ := bed.Mates(b, l); !ok {
			t.Fatal(b, l)
		}
		wantCropsOnTransversals(t, b, l)
	}
	if with == 0 || without == 0 {
		t.Error(with, without)
	}
}

// wantCropsOnTransversals: the places of each crop of the mate are a transversal of b.
func wantCropsOnTransversals(t *testing.T, b, mate [][]int) {
	t.Helper()
	all := transversalsOf(b)
	for crop := range b {
		var columns []int
		for _, row := range mate {
			columns = append(columns, slices.Index(row, crop))
		}
		if !slices.ContainsFunc(all, func(l []int) bool { return slices.Equal(l, columns) }) {
			t.Fatal(b, mate, crop)
		}
	}
}

// At most n - 1 beds are mates two by two; renaming crops does not matter, so each begins with 0, 1, 2 ..
func TestMatesTwoByTwo(t *testing.T) {
	for n := 2; n <= 4; n++ {
		first := empty(n)
		for c := range n {
			first[0][c] = c
		}
		if most := mostMates(nil, allFilled(first)); most > n-1 || n == 3 && most != 2 || n == 4 && most != 3 {
			t.Error(n, most)
		}
	}
	for _, n := range []int{5, 7} {
		for s := 1; s < n; s++ {
			for u := 1; u < s; u++ {
				if ok, e := bed.Mates(cyclic(n, s), cyclic(n, u)); !ok || e != api.OK {
					t.Error(n, s, u, ok, e)
				}
			}
		}
	}
}

// mostMates is the greatest number of beds that are mates two by two, with those that are chosen already.
func mostMates(chosen, others [][][]int) int {
	most := len(chosen)
	for i, b := range others {
		fits := true
		for _, c := range chosen {
			ok, _ := bed.Mates(b, c)
			fits = fits && ok
		}
		if fits {
			most = max(most, mostMates(append(slices.Clone(chosen), b), others[i+1:]))
		}
	}
	return most
}
