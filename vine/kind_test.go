package vine_test

import (
	"math/big"
	"math/rand"
	"slices"
	"strings"
	"testing"

	"dibber/api"
	"dibber/vine"
)

// someVines are small vines, random ones, and ones of each kind and power.
func someVines() [][]string {
	out := append(smallVines(), fading,
		[]string{"b", "c", "d", "e", "f", "a"},
		[]string{"b", "a", "d", "e", "c", "f"},
		[]string{"bc", "a", "d", "e", "c"},
		[]string{"bc", "a", "de", "c", "ff", ""},
		[]string{"bc", "ad", "", "e", "f", "d"},
		[]string{"bbbbbbbb", "cccccccc", "dddddddd", "eeeeeeee", "ffffffff", "f"},
		[]string{"bbbbbbbb", "cccccccc", "dddddddd", "eeeeeeee", "ffffffff", "ff"},
		[]string{"b", "c", "d", "e", "f", "aa"},
		[]string{"b", "ac", "a"},
		[]string{"b", "c", "d", "e", "fa", "a"},
		[]string{"bc", "", "d", "da"})
	for power := range api.MaxParts {
		var v []string
		for p := range power {
			v = append(v, letters[p:p+2])
		}
		out = append(out, append(v, letters[power:power+1]))
	}
	rng := rand.New(rand.NewSource(6))
	for range 600 {
		out = append(out, randomVine(rng, 1+rng.Intn(api.MaxBecomes), true), randomVine(rng, 2, false))
	}
	return out
}

func TestDies(t *testing.T) {
	for _, v := range someVines() {
		for _, shoot := range append(words(len(v), 1), letters[:len(v)], strings.Repeat(letters[:1], api.MaxShoot)) {
			want, wantE := 0, api.ErrPlan
			for year, n := range lengths(v, shoot, 20) {
				if n.Sign() == 0 {
					want, wantE = year, api.OK
					break
				}
			}
			if year, e := vine.Dies(v, shoot); year != want || e != wantE || year > len(v) {
				t.Error(v, shoot, year, e, want)
			}
		}
	}
}

// differences are those of an order, of numbers that are 60 years apart.
func differences(all []*big.Int, from, order int) []*big.Int {
	var out []*big.Int
	for year := from; year < len(all); year += 60 {
		out = append(out, all[year])
	}
	for range order {
		for i := range len(out) - 1 {
			out[i] = new(big.Int).Sub(out[i+1], out[i])
		}
		out = out[:len(out)-1]
	}
	return out
}

// growsLike is P3.10: the differences of that order are above 0, and those of the next one 0.
func growsLike(all []*big.Int, power int) bool {
	for from := 6; from < 66; from++ {
		some := differences(all, from, power)
		none := differences(all, from, power+1)
		if slices.ContainsFunc(some, func(n *big.Int) bool { return n.Sign() <= 0 }) || slices.ContainsFunc(none, func(n *big.Int) bool { return n.Sign() != 0 }) {
			return false
		}
	}
	return true
}

// doubles is P3.10: a part that the shoot has in some year becomes a shoot that has it twice.
func doubles(v []string, shoot string) bool {
	some := make([]bool, len(v))
	for _, row := range counts(v, shoot, len(v)) {
		for p, n := range row {
			some[p] = some[p] || n.Sign() > 0
		}
	}
	for p, ok := range some {
		for _, row := range counts(v, letters[p:p+1], 36)[1:] {
			if ok && row[p].Cmp(big.NewInt(2)) >= 0 {
				return true
			}
		}
	}
	return false
}

func checkKind(t *testing.T, v []string, shoot string) {
	t.Helper()
	kind, power, e := vine.Kind(v, shoot)
	if e != api.OK || kind != 2 && power != 0 || kind == 2 && power < 1 {
		t.Fatal(v, shoot, kind, power, e)
	}
	if _, e := vine.Dies(v, shoot); (e == api.OK) != (kind == 0) {
		t.Fatal(v, shoot, kind, e)
	}
	if doubles(v, shoot) != (kind == 3) {
		t.Fatal(v, shoot, kind)
	}
	if kind == 1 || kind == 2 {
		if !growsLike(lengths(v, shoot, 66+60*(power+2)), power) {
			t.Fatal(v, shoot, kind, power)
		}
	}
}

func TestKind(t *testing.T) {
	seen := map[[2]int]int{}
	for _, v := range someVines() {
		for _, shoot := range append(words(len(v), 1), letters[:len(v)]) {
			checkKind(t, v, shoot)
			kind, power, _ := vine.Kind(v, shoot)
			seen[[2]int{kind, power}]++
		}
	}
	for _, want := range [][2]int{{0, 0}, {1, 0}, {2, 1}, {2, 2}, {2, 3}, {2, 4}, {2, 5}, {3, 0}} {
		if seen[want] == 0 {
			t.Error("no vine of the kind", want)
		}
	}
	if len(seen) != 8 {
		t.Error(seen)
	}
}

func TestKinds(t *testing.T) {
	for _, c := range []struct {
		vine        []string
		shoot       string
		kind, power int
	}{
		{rabbit, "a", 3, 0}, {rabbit, "b", 3, 0}, {rabbit, "", 0, 0}, {slow, "a", 2, 1}, {slow, "b", 1, 0},
		{[]string{"aa"}, "a", 3, 0}, {[]string{"a"}, "aaa", 1, 0}, {[]string{""}, "aaa", 0, 0},
		{[]string{"aa", "b"}, "b", 1, 0}, {[]string{"aa", "b"}, "ba", 3, 0}, {[]string{"aa", "ba"}, "b", 3, 0},
		{[]string{"ab", "bc", "cd", "de", "ef", "f"}, "a", 2, 5},
		{[]string{"ab", "bc", "cd", "de", "ef", "f"}, "fdf", 2, 2},
		{[]string{"ab", "bc", "cd", "de", "ef", ""}, "a", 2, 4},
		{[]string{"ab", "c", "cd", ""}, "a", 2, 1},
		{[]string{"abb", "c", "c", "aa"}, "a", 2, 1},
		{[]string{"ab", ""}, "a", 1, 0},
		{[]string{"bc", "a", "d", "c"}, "a", 2, 1},
	} {
		if kind, power, e := vine.Kind(c.vine, c.shoot); kind != c.kind || power != c.power || e != api.OK {
			t.Error(c, kind, power, e)
		}
	}
}

// checkSame compares Same with the lengths of many more years (P3.9).
func checkSame(t *testing.T, a []string, shootA string, b []string, shootB string) int {
	t.Helper()
	want, wantE := 0, api.ErrPlan
	lengthsB := lengths(b, shootB, 50)
	for year, n := range lengths(a, shootA, 50) {
		if n.Cmp(lengthsB[year]) != 0 {
			want, wantE = year, api.OK
			break
		}
	}
	year, e := vine.Same(a, shootA, b, shootB)
	if year != want || e != wantE || e == api.OK && year >= len(a)+len(b) {
		t.Fatal(a, shootA, b, shootB, year, e, want)
	}
	if e != api.OK {
		return -1
	}
	return year
}

func TestSame(t *testing.T) {
	seen := map[int]int{}
	for _, a := range smallVines() {
		for _, b := range smallVines() {
			for _, shoot := range words(len(b), 2) {
				seen[checkSame(t, a, "a", b, shoot)]++
			}
		}
	}
	for year := -1; year < 4; year++ {
		if seen[year] == 0 {
			t.Error("no two vines that are the same up to the year", year)
		}
	}
	rng := rand.New(rand.NewSource(7))
	for range 2000 {
		a, b := randomVine(rng, 3, true), randomVine(rng, 3, true)
		checkSame(t, a, randomWord(rng, len(a), 3), b, randomWord(rng, len(b), 3))
	}
	for _, c := range []struct {
		a      []string
		shootA string
		b      []string
		shootB string
		want   int
	}{
		{[]string{"a"}, "a", []string{"aa"}, "a", 1},
		{[]string{"a"}, "", []string{"aa"}, "a", 0},
		{[]string{"aa"}, "a", slow, "a", 2},
		{slow, "a", []string{"aa"}, "a", 2},
		{fading, "a", []string{"a"}, "a", 6},
		{rabbit, "a", slow, "a", 3},
		{rabbit, "a", []string{"ba", "a"}, "a", -1},
		{thue, "ab", []string{"aa"}, "aa", -1},
		{fading, "", []string{""}, "", -1},
		{[]string{"bbbbbbbb", "aaaaaaaa"}, "a", []string{"aaaaaaaa"}, "a", -1},
	} {
		if year := checkSame(t, c.a, c.shootA, c.b, c.shootB); year != c.want {
			t.Error(c, year)
		}
	}
}

// alike compares the shoots that it draws.
func alike(a []string, shootA string, b []string, shootB string) (int, api.Errno) {
	for year := range 12 {
		if len(shootA) == len(shootB) && len(shootA) > 100000 {
			return 0, api.ErrFull
		}
		if shootA != shootB {
			return year, api.OK
		}
		shootA, shootB = grown(a, shootA, 1), grown(b, shootB, 1)
	}
	return 0, api.ErrPlan
}

func TestAlike(t *testing.T) {
	seen := map[int]int{}
	check := func(a []string, shootA string, b []string, shootB string) {
		t.Helper()
		want, wantE := alike(a, shootA, b, shootB)
		year, e := vine.Alike(a, shootA, b, shootB)
		if year != want || e != wantE {
			t.Fatal(a, shootA, b, shootB, year, e, want, wantE)
		}
		if e == api.OK {
			seen[year]++
		}
	}
	for _, a := range smallVines() {
		for _, b := range smallVines() {
			check(a, "a", b, "aa")
			for _, shoot := range words(min(len(a), len(b)), 2) {
				check(a, shoot, b, shoot)
			}
		}
	}
	rng := rand.New(rand.NewSource(8))
	for range 500 {
		a := randomVine(rng, 4, true)
		b := slices.Clone(a)
		b[rng.Intn(len(b))] = randomWord(rng, len(b), 4)
		shoot := randomWord(rng, len(a), 3)
		check(a, shoot, b, shoot)
	}
	for year := range 4 {
		if seen[year] == 0 {
			t.Error("no two vines that are alike up to the year", year)
		}
	}
}

func TestAlikeLong(t *testing.T) {
	wide := []string{"bbbbbbbb", "cccc", "ddddd", "eeeee", "fffff", "f"}
	fades := []string{"bbbbbbbb", "cccc", "ddddd", "eeeee", "fffff", ""}
	bends := []string{"bbbbbbbb", "cccc", "ddddd", "eeeee", "aaaaa", "f"}
	a25 := strings.Repeat("a", 25)
	for _, c := range []struct {
		a      []string
		shootA string
		b      []string
		shootB string
		want   int
		wantE  api.Errno
	}{
		{rabbit, "a", rabbit, "a", 0, api.ErrPlan},
		{rabbit, "a", []string{"ba", "a"}, "a", 1, api.OK},
		{rabbit, "a", rabbit, "b", 0, api.OK},
		{rabbit, "a", rabbit, "", 0, api.OK},
		{fading, "a", append(fading[:5:5], "a"), "a", 6, api.OK},
		{wide, a25, wide, a25, 0, api.ErrPlan},
		{wide, a25 + "f", wide, a25 + "f", 0, api.ErrFull},
		{wide, a25, bends, a25, 5, api.OK},
		{wide, a25 + "f", bends, a25 + "f", 0, api.ErrFull},
		{wide, a25, fades, a25, 6, api.OK},
		{fades, a25 + "a", fades, a25 + "a", 0, api.ErrFull},
		{wide, a25 + "a", wide, a25 + "b", 0, api.OK},
		// The lengths tell, however much they are: 104000 and 100001 letters.
		{wide, a25 + "a", []string{"bbbbbbbb", "cccc", "ddddd", "eeeee", "ffffff", "f"}, a25 + "a", 5, api.OK},
		// 3 to the power 11 is above the limit, and 30 times 2 to the power 12, but that is after the last year.
		{[]string{"aaa"}, "a", []string{"aaa"}, "a", 0, api.ErrFull},
		{[]string{"aa"}, a25 + "aaaaa", []string{"aa"}, a25 + "aaaaa", 0, api.ErrPlan},
	} {
		if year, e := vine.Alike(c.a, c.shootA, c.b, c.shootB); year != c.want || e != c.wantE {
			t.Error(c, year, e)
		}
	}
}

func TestTwoVinesInOrder(t *testing.T) {
	calls := []func([]string, string, []string, string) (int, api.Errno){vine.Same, vine.Alike}
	for _, call := range calls {
		for _, c := range []struct {
			a      []string
			shootA string
			b      []string
			shootB string
			want   api.Errno
		}{
			{[]string{"x"}, "a", nil, "a", api.ErrForm},
			{rabbit, "c", nil, "a", api.ErrForm},
			{rabbit, "a", nil, "c", api.ErrArg},
			{rabbit, "c", []string{"x"}, "a", api.ErrForm},
			{nil, "c", []string{"x"}, "a", api.ErrArg},
			{rabbit, "a", []string{"a"}, "b", api.ErrForm},
		} {
			if year, e := call(c.a, c.shootA, c.b, c.shootB); year != 0 || e != c.want {
				t.Error(c, year, e)
			}
		}
	}
}

// characteristic is the value at x of the characteristic polynomial, by the sum over all permutations.
func characteristic(v []string, x int64) *big.Int {
	n := len(v)
	out := new(big.Int)
	var add func(row int, used int, product *big.Int)
	add = func(row, used int, product *big.Int) {
		if row == n {
			out.Add(out, product)
			return
		}
		for column := range n {
			if used>>column&1 == 1 {
				continue
			}
			entry := big.NewInt(-int64(strings.Count(v[column], letters[row:row+1])))
			if row == column {
				entry.Add(entry, big.NewInt(x))
			}
			for later := column + 1; later < n; later++ {
				if used>>later&1 == 1 {
					entry.Neg(entry)
				}
			}
			add(row+1, used|1<<column, entry.Mul(entry, product))
		}
	}
	add(0, 0, big.NewInt(1))
	return out
}

func checkRecurrence(t *testing.T, v []string, shoot string) {
	t.Helper()
	c, e := vine.Recurrence(v, shoot)
	if e != api.OK || len(c) != len(v) {
		t.Fatal(v, shoot, c, e)
	}
	for x := range int64(len(v) + 1) {
		value := new(big.Int).Exp(big.NewInt(x), big.NewInt(int64(len(v))), nil)
		for i, n := range c {
			power := new(big.Int).Exp(big.NewInt(x), big.NewInt(int64(len(v)-1-i)), nil)
			value.Sub(value, power.Mul(power, big.NewInt(int64(n))))
		}
		if value.Cmp(characteristic(v, x)) != 0 {
			t.Fatal(v, c, x, value, characteristic(v, x))
		}
	}
	all := lengths(v, shoot, 30)
	for year := len(v); year < len(all); year++ {
		want := new(big.Int)
		for i, n := range c {
			want.Add(want, new(big.Int).Mul(big.NewInt(int64(n)), all[year-1-i]))
		}
		if want.Cmp(all[year]) != 0 {
			t.Fatal(v, shoot, c, year, want)
		}
	}
}

func TestRecurrence(t *testing.T) {
	for _, v := range someVines() {
		checkRecurrence(t, v, "a")
		checkRecurrence(t, v, letters[:len(v)])
	}
	for _, c := range []struct {
		vine  []string
		shoot string
		want  []int
	}{
		{rabbit, "a", []int{1, 1}},
		{rabbit, "", []int{1, 1}},
		{slow, "a", []int{2, -1}},
		{[]string{""}, "a", []int{0}},
		{[]string{"aaaaaaaa"}, "a", []int{8}},
		{fading, "a", []int{0, 0, 0, 0, 0, 0}},
		{[]string{"b", "c", "a"}, "a", []int{0, 0, 1}},
		{[]string{"aaaaaaaa", "bbbbbbbb", "cccccccc", "dddddddd", "eeeeeeee", "ffffffff"}, "", []int{48, -960, 10240, -61440, 196608, -262144}},
	} {
		if l, e := vine.Recurrence(c.vine, c.shoot); !slices.Equal(l, c.want) || e != api.OK {
			t.Error(c, l, e)
		}
	}
}
