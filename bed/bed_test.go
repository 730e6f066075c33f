package bed_test

import (
	"math"
	"math/rand"
	"reflect"
	"slices"
	"testing"

	"dibber/api"
	"dibber/bed"
)

// badShapes are lists that are not beds because of their size or their numbers.
func badShapes() map[string][][]int {
	return map[string][][]int{
		"nil":                 nil,
		"no rows":             {},
		"eight rows":          empty(8),
		"a row too short":     {{0, 1}, {1}},
		"a row too long":      {{0, 1}, {1, 0, -1}},
		"a nil row":           {{0, 1}, nil},
		"wide":                {{0, 1, 2}, {1, 2, 0}},
		"a crop too high":     {{0, 1}, {2, -1}},
		"a crop too low":      {{0, 1}, {-2, -1}},
		"the highest int":     {{0, math.MaxInt}, {1, 0}},
		"the lowest int":      {{0, math.MinInt}, {1, 0}},
		"shape before repeat": {{0, 0}, {2, 1}},
	}
}

// notBeds are badShapes and lists in which a crop is twice in a row or in a column.
func notBeds() map[string][][]int {
	out := badShapes()
	out["twice in a row"] = [][]int{{0, 0}, {-1, -1}}
	out["twice in a column"] = [][]int{{0, -1}, {0, -1}}
	return out
}

func TestCheckFindsTheFirstRepeat(t *testing.T) {
	for _, c := range []struct {
		bed      [][]int
		row, col int
	}{
		{[][]int{{0, 0}, {1, -1}}, 0, 1},
		{[][]int{{0, 1}, {0, -1}}, 1, 0},
		{[][]int{{0, -1, 0}, {0, 1, 1}, {-1, -1, -1}}, 0, 2},
		{[][]int{{0, 1, 2}, {1, 2, 0}, {2, 0, 0}}, 2, 2},
		{[][]int{{0, 1, 2}, {1, 2, 0}, {2, 1, 0}}, 2, 1},
		{[][]int{{-1, -1}, {1, 1}}, 1, 1},
	} {
		if r, col, e := bed.Check(c.bed); r != c.row || col != c.col || e != api.OK {
			t.Error(c, r, col, e)
		}
	}
}

func TestCheckOfRandomLists(t *testing.T) {
	rng := rand.New(rand.NewSource(1))
	for range 3000 {
		n := 1 + rng.Intn(api.MaxCrops)
		list := empty(n)
		for range rng.Intn(2 * n) {
			list[rng.Intn(n)][rng.Intn(n)] = rng.Intn(n)
		}
		row, col, found := firstRepeat(list)
		r, c, e := bed.Check(list)
		want := api.ErrPlan
		if found {
			want = api.OK
		}
		if r != row || c != col || e != want {
			t.Fatal(list, r, c, e)
		}
	}
}

func firstRepeat(list [][]int) (int, int, bool) {
	for r, row := range list {
		for c, crop := range row {
			if crop >= 0 && !mayHave(list, r, c, crop) {
				return r, c, true
			}
		}
	}
	return 0, 0, false
}

// mayHave reports whether no earlier place of the row or the column has the crop.
func mayHave(list [][]int, r, c, crop int) bool {
	for i := range c {
		if list[r][i] == crop {
			return false
		}
	}
	for i := range r {
		if list[i][c] == crop {
			return false
		}
	}
	return true
}

func TestCheckOfBedsAndShapes(t *testing.T) {
	for _, b := range [][][]int{{{0}}, {{-1}}, {{0, 1}, {1, 0}}, {{-1, 0}, {0, -1}}, empty(7), three, klein} {
		if r, c, e := bed.Check(b); r != 0 || c != 0 || e != api.ErrPlan {
			t.Error(b, r, c, e)
		}
	}
	for name, b := range badShapes() {
		if r, c, e := bed.Check(b); r != 0 || c != 0 || e != api.ErrArg {
			t.Error(name, r, c, e)
		}
	}
}

func TestWhatIsNotABedIsRefused(t *testing.T) {
	for name, b := range notBeds() {
		if l, e := bed.Fill(b); l != nil || e != api.ErrArg {
			t.Error("Fill", name, l, e)
		}
		if n, e := bed.Count(b); n != 0 || e != api.ErrArg {
			t.Error("Count", name, n, e)
		}
		wantNoFullBed(t, name, b)
	}
	for name, b := range map[string][][]int{"empty": empty(3), "nearly full": {{0, 1}, {1, -1}}, "one": {{-1}}} {
		wantNoFullBed(t, name, b)
	}
}

// wantNoFullBed asks all functions of a full bed for ErrArg.
func wantNoFullBed(t *testing.T, name string, b [][]int) {
	t.Helper()
	if l, e := bed.Transversal(b); l != nil || e != api.ErrArg {
		t.Error("Transversal", name, l, e)
	}
	if n, e := bed.Transversals(b); n != 0 || e != api.ErrArg {
		t.Error("Transversals", name, n, e)
	}
	if ok, e := bed.Mates(b, three); ok || e != api.ErrArg {
		t.Error("Mates", name, ok, e)
	}
	if ok, e := bed.Mates(three, b); ok || e != api.ErrArg {
		t.Error("Mates", name, ok, e)
	}
	if l, e := bed.Mate(b); l != nil || e != api.ErrArg {
		t.Error("Mate", name, l, e)
	}
	if n, e := bed.Squares(b); n != 0 || e != api.ErrArg {
		t.Error("Squares", name, n, e)
	}
	if a, c, e := bed.Turned(b); a != nil || c != nil || e != api.ErrArg {
		t.Error("Turned", name, a, c, e)
	}
}

func TestFillIsLeast(t *testing.T) {
	for _, c := range []struct{ bed, want [][]int }{
		{[][]int{{0, -1, -1}, {-1, -1, 0}, {-1, -1, -1}}, three},
		{[][]int{{-1}}, [][]int{{0}}},
		{[][]int{{-1, -1}, {-1, 0}}, [][]int{{0, 1}, {1, 0}}},
		{klein, klein},
		{empty(4), klein},
	} {
		if l, e := bed.Fill(c.bed); !reflect.DeepEqual(l, c.want) || e != api.OK {
			t.Error(c, l, e)
		}
	}
	l, e := bed.Fill(empty(7))
	if e != api.OK || !slices.Equal(l[0], []int{0, 1, 2, 3, 4, 5, 6}) || !slices.Equal(l[1], []int{1, 0, 3, 2, 5, 6, 4}) {
		t.Error(l, e)
	}
}

func TestFillRefuses(t *testing.T) {
	for _, b := range [][][]int{
		{{0, -1}, {-1, 1}},
		{{0, 1, -1}, {-1, -1, 2}, {-1, -1, -1}},
		{{0, -1, -1}, {-1, 0, -1}, {-1, -1, 1}},
		subsquare(7, 4),
		subsquare(6, 4),
	} {
		if l, e := bed.Fill(b); l != nil || e != api.ErrPlan {
			t.Error(b, l, e)
		}
	}
	if l, e := bed.Fill(subsquare(7, 3)); !fills(l, subsquare(7, 3)) || e != api.OK {
		t.Error(l, e)
	}
}

// subsquare is a bed of n crops in which a corner of k rows is a full bed of the first k crops.
func subsquare(n, k int) [][]int {
	out := empty(n)
	for r := range k {
		for c := range k {
			out[r][c] = (r + c) % k
		}
	}
	return out
}

// fills reports whether full is a full bed with all crops of b.
func fills(full, b [][]int) bool {
	if _, _, e := bed.Check(full); e != api.ErrPlan || len(full) != len(b) {
		return false
	}
	for r, row := range b {
		if slices.Contains(full[r], -1) {
			return false
		}
		for c, crop := range row {
			if crop >= 0 && full[r][c] != crop {
				return false
			}
		}
	}
	return true
}

// allFilled are the full beds with all crops of b, in lexicographic order.
func allFilled(b [][]int) [][][]int {
	var out [][][]int
	n := len(b)
	at := clone(b)
	var sow func(place int)
	sow = func(place int) {
		if place == n*n {
			out = append(out, clone(at))
			return
		}
		r, c := place/n, place%n
		for crop := range n {
			if (b[r][c] < 0 || b[r][c] == crop) && mayHave(at, r, c, crop) {
				at[r][c] = crop
				sow(place + 1)
			}
		}
		at[r][c] = b[r][c]
	}
	sow(0)
	return out
}

// someBed sows up to most crops at random, none twice in a row or in a column.
func someBed(rng *rand.Rand, n, most int) [][]int {
	out := empty(n)
	for range most {
		r, c, crop := rng.Intn(n), rng.Intn(n), rng.Intn(n)
		before := out[r][c]
		out[r][c] = crop
		if _, _, e := bed.Check(out); e != api.ErrPlan {
			out[r][c] = before
		}
	}
	return out
}

func TestFillAndCountOfRandomBeds(t *testing.T) {
	rng := rand.New(rand.NewSource(2))
	for range 600 {
		n := 1 + rng.Intn(4)
		wantFilled(t, someBed(rng, n, rng.Intn(2*n*n)))
	}
	for range 200 {
		wantFilled(t, someBed(rng, 5, 6+rng.Intn(20)))
	}
}

func wantFilled(t *testing.T, b [][]int) {
	t.Helper()
	all := allFilled(b)
	if n, e := bed.Count(b); n != len(all) || e != api.OK {
		t.Fatal(b, n, e, len(all))
	}
	l, e := bed.Fill(b)
	if len(all) == 0 {
		if l != nil || e != api.ErrPlan {
			t.Fatal(b, l, e)
		}
		return
	}
	if !reflect.DeepEqual(l, all[0]) || e != api.OK {
		t.Fatal(b, l, e, all[0])
	}
}

func TestFillOfLargeRandomBeds(t *testing.T) {
	rng := rand.New(rand.NewSource(3))
	for range 300 {
		n := 6 + rng.Intn(2)
		full := someFull(rng, n)
		b := clone(full)
		for r, row := range b {
			for c := range row {
				if rng.Intn(3) > 0 {
					b[r][c] = -1
				}
			}
		}
		l, e := bed.Fill(b)
		if e != api.OK || !fills(l, b) || less(full, l) {
			t.Fatal(b, l, e)
		}
		if again, _ := bed.Fill(l); !reflect.DeepEqual(again, l) {
			t.Fatal(again, l)
		}
	}
}

func less(a, b [][]int) bool {
	return slices.CompareFunc(a, b, slices.Compare[[]int]) < 0
}

func TestFillEndsForRandomBedsOfSeven(t *testing.T) {
	rng := rand.New(rand.NewSource(4))
	for range 500 {
		b := someBed(rng, 7, 7+rng.Intn(60))
		l, e := bed.Fill(b)
		if e != api.ErrPlan && (e != api.OK || !fills(l, b)) {
			t.Fatal(b, l, e)
		}
	}
}

func TestCountOfEmptyAndOfLargeBeds(t *testing.T) {
	for n, want := range map[int]int{1: 1, 2: 2, 3: 12, 4: 576, 5: 161280} {
		if c, e := bed.Count(empty(n)); c != want || e != api.OK {
			t.Error(n, c, e)
		}
	}
	if c, e := bed.Count([][]int{{0, -1}, {-1, 1}}); c != 0 || e != api.OK {
		t.Error(c, e)
	}
	for n := api.MaxCounted + 1; n <= api.MaxCrops; n++ {
		full, _ := bed.Cyclic(n, 1)
		for _, b := range [][][]int{empty(n), full} {
			if c, e := bed.Count(b); c != 0 || e != api.ErrArg {
				t.Error(n, c, e)
			}
		}
	}
}

func TestResultsAreNewAndArgumentsKept(t *testing.T) {
	b := clone(klein)
	for name, lists := range map[string]func() [][]int{
		"Fill":        func() [][]int { l, _ := bed.Fill(b); return l },
		"Row":         func() [][]int { l, _ := bed.Row(4, b[:2]); return [][]int{l} },
		"Transversal": func() [][]int { l, _ := bed.Transversal(b); return [][]int{l} },
		"Mate":        func() [][]int { l, _ := bed.Mate(b); return l },
		"Cyclic":      func() [][]int { l, _ := bed.Cyclic(4, 3); return l },
		"Turned":      func() [][]int { l, m, _ := bed.Turned(b); return append(l, m...) },
	} {
		first := lists()
		before := clone(first)
		for i, row := range first {
			for j := range row {
				row[j] = -9
			}
			_ = append(row, -9)
			if i+1 < len(first) && !slices.Equal(first[i+1], before[i+1]) {
				t.Error(name, "two rows share memory")
			}
		}
		if again := lists(); !reflect.DeepEqual(again, before) {
			t.Error(name, again, before)
		}
	}
	bed.Check(b)
	bed.Count(b)
	bed.Squares(b)
	bed.Mates(b, b)
	bed.Rows(4, b[:1])
	bed.Transversals(b)
	if !reflect.DeepEqual(b, klein) {
		t.Error("an argument has changed:", b)
	}
}

func TestAnyArgumentsEnd(t *testing.T) {
	rng := rand.New(rand.NewSource(5))
	some := []int{-2, -1, 0, 1, 2, 3, 4, 5, 6, 7, 8, math.MinInt, math.MaxInt, math.MaxInt - 63, 256}
	pick := func() int { return some[rng.Intn(len(some))] }
	for i := range 2000 {
		list := make([][]int, rng.Intn(10))
		if i%2 == 0 {
			list = someBed(rng, 1+rng.Intn(api.MaxCrops), rng.Intn(90))
		}
		for r := range list {
			for range rng.Intn(10) * (i % 2) {
				list[r] = append(list[r], pick())
			}
		}
		n := pick()
		first := callAll(list, n)
		if again := callAll(list, n); !reflect.DeepEqual(again, first) {
			t.Fatal(list, n, first, again)
		}
	}
}

// callAll returns all results of all functions.
func callAll(list [][]int, n int) []any {
	var out []any
	keep := func(results ...any) { out = append(out, results) }
	r, c, e := bed.Check(list)
	keep(r, c, e)
	full, e := bed.Fill(list)
	ways, f := bed.Count(list)
	keep(full, e, ways, f)
	row, e := bed.Row(n, list)
	rows, f := bed.Rows(n, list)
	keep(row, e, rows, f)
	columns, e := bed.Transversal(list)
	ways, f = bed.Transversals(list)
	keep(columns, e, ways, f)
	ok, e := bed.Mates(list, list)
	mate, f := bed.Mate(list)
	keep(ok, e, mate, f)
	whole, e := bed.Cyclic(n, n)
	ways, f = bed.Squares(list)
	keep(whole, e, ways, f)
	mirrored, rolled, e := bed.Turned(list)
	keep(mirrored, rolled, e)
	return out
}
