package vine_test

import (
	"math"
	"math/big"
	"math/bits"
	"math/rand"
	"slices"
	"strings"
	"testing"

	"dibber/api"
	"dibber/vine"
)

// withShoot are the functions of a vine and a shoot of it; each tells whether its results but the error are zero values.
func withShoot() map[string]func([]string, string) (bool, api.Errno) {
	return map[string]func([]string, string) (bool, api.Errno){
		"Grow": func(v []string, s string) (bool, api.Errno) {
			out, e := vine.Grow(v, s, -1)
			return out == "", e
		},
		"Long": func(v []string, s string) (bool, api.Errno) {
			out, e := vine.Long(v, s, -1)
			return out == 0, e
		},
		"Parts": func(v []string, s string) (bool, api.Errno) {
			out, e := vine.Parts(v, s, -1)
			return len(out) == 0, e
		},
		"At": func(v []string, s string) (bool, api.Errno) {
			out, e := vine.At(v, s, -1, -1)
			return out == "", e
		},
		"Dies": func(v []string, s string) (bool, api.Errno) {
			out, e := vine.Dies(v, s)
			return out == 0, e
		},
		"Kind": func(v []string, s string) (bool, api.Errno) {
			kind, power, e := vine.Kind(v, s)
			return kind == 0 && power == 0, e
		},
		"Same": func(v []string, s string) (bool, api.Errno) {
			out, e := vine.Same(v, s, nil, "")
			return out == 0, e
		},
		"Same as the second": func(v []string, s string) (bool, api.Errno) {
			out, e := vine.Same(rabbit, "a", v, s)
			return out == 0, e
		},
		"Alike": func(v []string, s string) (bool, api.Errno) {
			out, e := vine.Alike(v, s, nil, "")
			return out == 0, e
		},
		"Alike as the second": func(v []string, s string) (bool, api.Errno) {
			out, e := vine.Alike(rabbit, "a", v, s)
			return out == 0, e
		},
		"Recurrence": func(v []string, s string) (bool, api.Errno) {
			out, e := vine.Recurrence(v, s)
			return len(out) == 0, e
		},
		"Endless": func(v []string, s string) (bool, api.Errno) {
			out, e := vine.Endless(v)
			return len(out) == 0, e
		},
		"Letter": func(v []string, s string) (bool, api.Errno) {
			out, e := vine.Letter(v, "", -1)
			return out == "", e
		},
		"Factors": func(v []string, s string) (bool, api.Errno) {
			out, e := vine.Factors(v, "", -1)
			return out == 0, e
		},
	}
}

func TestBadVines(t *testing.T) {
	for name, call := range withShoot() {
		for _, bad := range badVines {
			for _, shoot := range []string{"", "a", "g", strings.Repeat("a", 31)} {
				if zero, e := call(bad.vine, shoot); e != bad.want || !zero {
					t.Error(name, bad.vine, shoot, zero, e)
				}
			}
		}
	}
}

func TestBadShoots(t *testing.T) {
	for name, call := range withShoot() {
		if name == "Endless" || name == "Letter" || name == "Factors" {
			continue
		}
		for _, shoot := range badShoots {
			if zero, e := call(rabbit, shoot); e != api.ErrForm || !zero {
				t.Error(name, shoot, zero, e)
			}
		}
	}
}

func TestBadYears(t *testing.T) {
	for _, years := range []int{-1, 1001, math.MinInt, math.MaxInt, 1 << 32} {
		if s, e := vine.Grow(rabbit, "a", years); s != "" || e != api.ErrLimit {
			t.Error(years, s, e)
		}
		if n, e := vine.Long(rabbit, "a", years); n != 0 || e != api.ErrLimit {
			t.Error(years, n, e)
		}
		if l, e := vine.Parts(rabbit, "a", years); len(l) != 0 || e != api.ErrLimit {
			t.Error(years, l, e)
		}
		for _, place := range []int{0, -1} {
			if s, e := vine.At(rabbit, "a", years, place); s != "" || e != api.ErrLimit {
				t.Error(years, s, e)
			}
		}
	}
	for _, years := range []int{0, 1000} {
		if s, e := vine.Grow(fading, "", years); s != "" || e != api.OK {
			t.Error(years, s, e)
		}
		if n, e := vine.Long([]string{"a"}, "aa", years); n != 2 || e != api.OK {
			t.Error(years, n, e)
		}
		if l, e := vine.Parts([]string{"b", "a"}, "aab", years); !slices.Equal(l, []int{2, 1}) || e != api.OK {
			t.Error(years, l, e)
		}
		if s, e := vine.At([]string{"b", "a"}, "aab", years, 2); s != "b" || e != api.OK {
			t.Error(years, s, e)
		}
	}
}

// checkYear compares all that is said of a shoot after some years with what has been drawn.
func checkYear(t *testing.T, v []string, shoot string, years int) {
	t.Helper()
	want := grown(v, shoot, years)
	if s, e := vine.Grow(v, shoot, years); s != want || e != api.OK {
		t.Fatal("Grow", v, shoot, years, s, e)
	}
	if n, e := vine.Long(v, shoot, years); n != len(want) || e != api.OK {
		t.Fatal("Long", v, shoot, years, n, e)
	}
	parts, e := vine.Parts(v, shoot, years)
	if len(parts) != len(v) || e != api.OK {
		t.Fatal("Parts", v, shoot, years, parts, e)
	}
	for p, n := range parts {
		if n != strings.Count(want, letters[p:p+1]) {
			t.Fatal("Parts", v, shoot, years, parts)
		}
	}
	for place := range len(want) {
		if s, e := vine.At(v, shoot, years, place); s != want[place:place+1] || e != api.OK {
			t.Fatal("At", v, shoot, years, place, s, e)
		}
	}
	for _, place := range []int{len(want), len(want) + 1, math.MaxInt} {
		if s, e := vine.At(v, shoot, years, place); s != "" || e != api.ErrNone {
			t.Fatal("At", v, shoot, years, place, s, e)
		}
	}
	for _, place := range []int{-1, math.MinInt} {
		if s, e := vine.At(v, shoot, years, place); s != "" || e != api.ErrRange {
			t.Fatal("At", v, shoot, years, place, s, e)
		}
	}
}

func TestSmallVines(t *testing.T) {
	for _, v := range smallVines() {
		for _, shoot := range words(len(v), 2) {
			for years := range 6 {
				checkYear(t, v, shoot, years)
			}
		}
	}
}

func TestRandomVines(t *testing.T) {
	rng := rand.New(rand.NewSource(3))
	for range 400 {
		v := randomVine(rng, 4, rng.Intn(2) == 0)
		shoot := randomWord(rng, len(v), 5)
		for years := range 9 {
			if lengths(v, shoot, years)[years].Cmp(big.NewInt(600)) <= 0 {
				checkYear(t, v, shoot, years)
			}
		}
	}
}

// TestGrowTwice is P3.8: j years and then k are j + k years.
func TestGrowTwice(t *testing.T) {
	for _, v := range append(smallVines(), fading, []string{"abc", "bc", "c"}) {
		for j := range 4 {
			first, e := vine.Grow(v, "a", j)
			if e != api.OK {
				t.Fatal(v, j, e)
			}
			for k := range 5 {
				then, e := vine.Grow(v, first, k)
				both, f := vine.Grow(v, "a", j+k)
				if then != both || e != api.OK || f != api.OK {
					t.Error(v, j, k, then, both, e, f)
				}
			}
		}
	}
}

func TestGrowFull(t *testing.T) {
	wide := []string{"bbbbbbbb", "cccc", "ddddd", "eeeee", "fffff", "f"}
	shoot := strings.Repeat("a", 25)
	for _, years := range []int{5, 6, 300} {
		if s, e := vine.Grow(wide, shoot, years); s != strings.Repeat("f", api.MaxLetters) || e != api.OK {
			t.Error(years, len(s), e)
		}
		if s, e := vine.Grow(wide, shoot+"f", years); s != "" || e != api.ErrFull {
			t.Error(years, len(s), e)
		}
	}
	// What has died by the last year does not count, however much it was.
	wide[5] = ""
	for _, years := range []int{5, 6, 7, 1000} {
		s, e := vine.Grow(wide, shoot+"fa", years)
		if years == 5 && e != api.ErrFull || years > 5 && e != api.OK || s != "" {
			t.Error(years, len(s), e)
		}
	}
	if s, e := vine.Grow([]string{"aa"}, "a", 1000); s != "" || e != api.ErrFull {
		t.Error(len(s), e)
	}
	if s, e := vine.Grow(slow, "a", 1000); s != "a"+strings.Repeat("b", 1000) || e != api.OK {
		t.Error(len(s), e)
	}
}

// checkLong compares Long and Parts with numbers of any size.
func checkLong(t *testing.T, v []string, shoot string, years int) {
	t.Helper()
	most := big.NewInt(api.MaxLong)
	for year, row := range counts(v, shoot, years) {
		want := sum(row)
		n, e := vine.Long(v, shoot, year)
		if want.Cmp(most) > 0 && (n != 0 || e != api.ErrRange) || want.Cmp(most) <= 0 && (want.Cmp(big.NewInt(int64(n))) != 0 || e != api.OK) {
			t.Fatal("Long", v, shoot, year, n, e, want)
		}
		l, e := vine.Parts(v, shoot, year)
		if slices.ContainsFunc(row, func(n *big.Int) bool { return n.Cmp(most) > 0 }) {
			if len(l) != 0 || e != api.ErrRange {
				t.Fatal("Parts", v, shoot, year, l, e, row)
			}
		} else if e != api.OK || !slices.EqualFunc(l, row, func(n int, want *big.Int) bool { return want.Cmp(big.NewInt(int64(n))) == 0 }) {
			t.Fatal("Parts", v, shoot, year, l, e, row)
		}
	}
}

func TestLongVines(t *testing.T) {
	for _, v := range smallVines() {
		checkLong(t, v, "a", 90)
	}
	rng := rand.New(rand.NewSource(4))
	for range 100 {
		v := randomVine(rng, api.MaxBecomes, rng.Intn(2) == 0)
		checkLong(t, v, randomWord(rng, len(v), api.MaxShoot), 70)
	}
	checkLong(t, []string{"bbbbbbbb", "aaaaaaaa"}, "a", 400)
	checkLong(t, []string{"bbbbbbbb", "cccccccc", "aaaaaaaa"}, "ab", 400)
	checkLong(t, []string{"aaaaaaaa", "aaaaaaaa", "aaaaaaaa", "aaaaaaaa", "aaaaaaaa", "aaaaaaaa"}, "abcdef", 1000)
	checkLong(t, []string{"ab", "bc", "cd", "de", "ef", "f"}, "a", 1000)
}

func TestMostLong(t *testing.T) {
	for _, c := range []struct {
		vine  []string
		shoot string
		years int
		want  int // 0: too long
	}{
		{[]string{"aa"}, "a", 60, 1 << 60},
		{[]string{"aa"}, "a", 61, 0},
		{[]string{"aaaaaaaa"}, "a", 20, 1 << 60},
		{[]string{"aaaaaaaa"}, "a", 21, 0},
		{[]string{"aaaaaaaa"}, "a", 22, 0},
		{[]string{"aa", "b"}, "ab", 60, 0},
		{[]string{"aa", "b"}, "ab", 59, 1<<59 + 1},
		{[]string{"aa", ""}, "ab", 60, 1 << 60},
	} {
		n, e := vine.Long(c.vine, c.shoot, c.years)
		if n != c.want || c.want == 0 && e != api.ErrRange || c.want != 0 && e != api.OK {
			t.Error(c, n, e)
		}
	}
	// Each number is one of its own: the sum may be above the limit.
	if l, e := vine.Parts([]string{"aa", "bb"}, "ab", 60); !slices.Equal(l, []int{1 << 60, 1 << 60}) || e != api.OK {
		t.Error(l, e)
	}
	if l, e := vine.Parts([]string{"aa", "bb"}, "abb", 60); len(l) != 0 || e != api.ErrRange {
		t.Error(l, e)
	}
	if l, e := vine.Parts([]string{"aab", "b"}, "a", 60); !slices.Equal(l, []int{1 << 60, 1<<60 - 1}) || e != api.OK {
		t.Error(l, e)
	}
	if l, e := vine.Parts([]string{"aab", "b"}, "abb", 60); len(l) != 0 || e != api.ErrRange {
		t.Error(l, e)
	}
}

// TestFarPlaces: the letters of the vine of Thue and Morse tell whether the ones of their place are even.
func TestFarPlaces(t *testing.T) {
	thueAt := func(place int, first string) string {
		if (bits.OnesCount(uint(place))%2 == 0) == (first == "a") {
			return "a"
		}
		return "b"
	}
	rng := rand.New(rand.NewSource(5))
	places := []int{0, 1, math.MaxInt, math.MaxInt - 1, 1 << 62, 1<<62 - 1, 1<<60 + 1}
	for range 200 {
		places = append(places, rng.Int()>>rng.Intn(60))
	}
	for _, place := range places {
		for _, years := range []int{63, 64, 100, 999, 1000} {
			for _, shoot := range []string{"a", "b", "ab", "ba"} {
				if s, e := vine.At(thue, shoot, years, place); s != thueAt(place, shoot[:1]) || e != api.OK {
					t.Fatal(years, shoot, place, s, e)
				}
			}
		}
		if half := 1 << 62; place < half {
			if s, e := vine.At(thue, "ba", 62, half+place); s != thueAt(place, "a") || e != api.OK {
				t.Fatal(place, s, e)
			}
		}
	}
}

func TestLastPlaces(t *testing.T) {
	for _, c := range []struct {
		vine         []string
		shoot        string
		years, place int
		want         string // "": none
	}{
		{[]string{"aa"}, "a", 62, 1<<62 - 1, "a"},
		{[]string{"aa"}, "a", 62, 1 << 62, ""},
		{[]string{"aa", "b"}, "ab", 62, 1 << 62, "b"},
		{[]string{"aa", "b"}, "ab", 62, 1<<62 + 1, ""},
		{[]string{"aa", "b"}, "ab", 62, math.MaxInt, ""},
		{[]string{"aa"}, "aa", 62, math.MaxInt, "a"},
		{[]string{"aa"}, "a", 63, math.MaxInt, "a"},
		{[]string{"aaaaaaaa"}, "a", 21, math.MaxInt, "a"},
		// After k years this one has one letter fewer than 2 to the power k + 1.
		{[]string{"aab", "b"}, "a", 62, math.MaxInt, ""},
		{[]string{"aab", "b"}, "a", 62, math.MaxInt - 1, "b"},
		{[]string{"aab", "b"}, "a", 62, math.MaxInt - 2, "b"},
		{[]string{"aab", "b"}, "ab", 62, math.MaxInt, "b"},
		{[]string{"aab", "b"}, "a", 63, math.MaxInt, "a"},
		{[]string{"aa", "b"}, "baba", 62, 1<<62 + 1, "b"},
		{[]string{"aa", "b"}, "baba", 62, 1<<62 + 2, "a"},
		{[]string{"ac", "b", ""}, "cabc", 1000, 1, "c"},
		{[]string{"ac", "b", ""}, "cabc", 1000, 2, "b"},
		{[]string{"ac", "b", ""}, "cabc", 1000, 3, ""},
		{[]string{"aaaaaaaa", "c", ""}, "ccbbcab", 1000, math.MaxInt, "a"},
		{[]string{"aaaaaaaa", "b"}, "bab", 1000, 0, "b"},
	} {
		s, e := vine.At(c.vine, c.shoot, c.years, c.place)
		if s != c.want || c.want == "" && e != api.ErrNone || c.want != "" && e != api.OK {
			t.Error(c, s, e)
		}
	}
}

func TestMemory(t *testing.T) {
	v := []string{"ab", "a"}
	for range 2 {
		l, e := vine.Parts(v, "a", 3)
		if !slices.Equal(l, []int{3, 2}) || e != api.OK {
			t.Error(l, e)
		}
		l[0] = 9
		l, e = vine.Recurrence(v, "a")
		if !slices.Equal(l, []int{1, 1}) || e != api.OK {
			t.Error(l, e)
		}
		l[0] = 9
		l, e = vine.Endless(v)
		if !slices.Equal(l, []int{0}) || e != api.OK {
			t.Error(l, e)
		}
		l[0] = 9
		vine.Grow(v, "a", 9)
		vine.Kind(v, "a")
		vine.Alike(v, "a", v, "a")
		vine.Factors(v, "a", 2)
		if !slices.Equal(v, rabbit) {
			t.Error(v)
		}
	}
}
