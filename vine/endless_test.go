package vine_test

import (
	"math"
	"math/rand"
	"slices"
	"strings"
	"testing"

	"dibber/api"
	"dibber/vine"
)

// isBud reads from the chapter whether a part is a bud.
func isBud(v []string, p int) bool {
	own := letters[p : p+1]
	return len(v[p]) >= 2 && strings.HasPrefix(v[p], own) && lengths(v, v[p][1:], 20)[20].Sign() > 0
}

// endless is the beginning of the endless shoot: each shoot of the bud begins with the one before it, and is cut where it is long enough.
func endless(v []string, p, long int) string {
	shoot := letters[p : p+1]
	for len(shoot) < long {
		shoot = grown(v, shoot, 1)
	}
	return shoot[:long]
}

func budVines() [][]string {
	out := append(smallVines(), fading,
		[]string{"abc", "", "d", "c"},
		[]string{"abbb", "c", "d", "e", "f", ""},
		[]string{"abbb", "c", "d", "e", "f", "f"},
		[]string{"acb", "bb", "cdb", "d", "ea", "fe"},
		[]string{"ab", "c", "d", "e", "f", "aa"})
	rng := rand.New(rand.NewSource(9))
	for range 300 {
		v := randomVine(rng, 4, true)
		for p := range v {
			if rng.Intn(2) == 0 {
				v[p] = letters[p:p+1] + v[p]
			}
		}
		out = append(out, v)
	}
	return out
}

func TestEndless(t *testing.T) {
	for _, v := range budVines() {
		var want []int
		for p := range v {
			if isBud(v, p) {
				want = append(want, p)
			}
		}
		if l, e := vine.Endless(v); !slices.Equal(l, want) || e != api.OK {
			t.Error(v, l, e, want)
		}
	}
	for _, c := range []struct {
		vine []string
		want []int
	}{
		{thue, []int{0, 1}},
		{slow, []int{0}},
		{rabbit, []int{0}},
		{[]string{"a"}, nil},
		{[]string{""}, nil},
		{[]string{"aa"}, []int{0}},
		{[]string{"ba", "ab"}, nil},
		{[]string{"ab", ""}, nil},
		{[]string{"ab", "c", "d", "e", "f", ""}, nil},
		{[]string{"ab", "c", "d", "e", "f", "f"}, []int{0}},
		{[]string{"ab", "bc", "cd", "de", "ef", "fa"}, []int{0, 1, 2, 3, 4, 5}},
	} {
		if l, e := vine.Endless(c.vine); !slices.Equal(l, c.want) || e != api.OK {
			t.Error(c, l, e)
		}
	}
}

// TestLetter is P3.11: Letter is At of the bud, wherever that has the place.
func TestLetter(t *testing.T) {
	for _, v := range budVines() {
		for p := range v {
			bud := letters[p : p+1]
			if !isBud(v, p) {
				if s, e := vine.Letter(v, bud, 0); s != "" || e != api.ErrPlan {
					t.Fatal(v, bud, s, e)
				}
				continue
			}
			want := endless(v, p, 60)
			for place := range len(want) {
				if s, e := vine.Letter(v, bud, place); s != want[place:place+1] || e != api.OK {
					t.Fatal(v, bud, place, s, e)
				}
				s, e := vine.At(v, bud, 8, place)
				if e == api.OK && s != want[place:place+1] || e != api.OK && e != api.ErrNone {
					t.Fatal(v, bud, place, s, e)
				}
			}
			if becomes := grown(v, want, 1); !strings.HasPrefix(becomes, want) {
				t.Fatal(v, bud, want, becomes)
			}
		}
	}
}

func TestFarLetters(t *testing.T) {
	for _, c := range []struct {
		vine []string
		bud  string
	}{
		{rabbit, "a"}, {slow, "a"}, {thue, "a"}, {thue, "b"},
		{[]string{"a", "bcc", "d", "da"}, "b"},
		{[]string{"acedbbd", "bde", "dbe", "d", "eeebd"}, "a"},
	} {
		want := ""
		if c.vine[0] == "ab" && c.vine[1] == "b" {
			want = "a" + strings.Repeat("b", api.MaxLetters-1)
		} else {
			want = endless(c.vine, int(c.bud[0]-'a'), api.MaxLetters)
		}
		for _, place := range []int{0, 1, 2, 1000, 65535, 65536, 99998, 99999} {
			if s, e := vine.Letter(c.vine, c.bud, place); s != want[place:place+1] || e != api.OK {
				t.Error(c, place, s, e)
			}
		}
		for _, place := range []int{-1, 100000, 100001, math.MinInt, math.MaxInt, 1 << 32} {
			if s, e := vine.Letter(c.vine, c.bud, place); s != "" || e != api.ErrRange {
				t.Error(c, place, s, e)
			}
		}
	}
}

func TestBadBuds(t *testing.T) {
	for _, bud := range []string{"", "c", "A", "aa", "ab", " ", "é", "\x00", "\xff", "`", strings.Repeat("a", 1000)} {
		for _, number := range []int{-1, 1} {
			if s, e := vine.Letter(thue, bud, number); s != "" || e != api.ErrForm {
				t.Error(bud, s, e)
			}
			if n, e := vine.Factors(thue, bud, number); n != 0 || e != api.ErrForm {
				t.Error(bud, n, e)
			}
		}
	}
	for _, number := range []int{-1, 1, 100000} {
		if s, e := vine.Letter(rabbit, "b", number); s != "" || e != api.ErrPlan {
			t.Error(number, s, e)
		}
		if n, e := vine.Factors(rabbit, "b", number); n != 0 || e != api.ErrPlan {
			t.Error(number, n, e)
		}
	}
	for _, length := range []int{0, -1, 11, math.MinInt, math.MaxInt, 1<<32 + 1} {
		if n, e := vine.Factors(rabbit, "a", length); n != 0 || e != api.ErrArg {
			t.Error(length, n, e)
		}
	}
}

// factors counts strings in the first letters.
func factors(shoot string, length int) int {
	seen := map[string]bool{}
	for i := range len(shoot) {
		if i+length <= len(shoot) {
			seen[shoot[i:i+length]] = true
		}
	}
	return len(seen)
}

func TestFactors(t *testing.T) {
	for _, c := range []struct {
		vine []string
		bud  int
	}{
		{rabbit, 0}, {thue, 0}, {thue, 1},
		{[]string{"acedbbd", "bde", "dbe", "d", "eeebd"}, 0},
		{[]string{"abffe", "bcdbcde", "fbcfcdbc", "bbbcceb", "e", "b"}, 0},
		{[]string{"abc", "bca", "cab"}, 1},
		{[]string{"aaaaaaab", "bbbbbbba"}, 1},
		{[]string{"abc", "bc", "c"}, 0},
		{[]string{"abc", "", "cda", "ee", "f", ""}, 2},
	} {
		shoot, before := endless(c.vine, c.bud, api.MaxLetters), 0
		for length := 1; length <= 10; length++ {
			n, e := vine.Factors(c.vine, letters[c.bud:c.bud+1], length)
			if n != factors(shoot, length) || e != api.OK {
				t.Error(c, length, n, e)
			}
			if n < before-1 {
				t.Error(c, length, n, before)
			}
			before = n
		}
	}
}

func TestKnownFactors(t *testing.T) {
	for _, c := range []struct {
		vine         []string
		length, want int
	}{
		{thue, 1, 2}, {thue, 2, 4}, {thue, 3, 6}, {thue, 4, 10}, {thue, 10, 28},
		{slow, 1, 2}, {slow, 2, 2}, {slow, 10, 2},
		{[]string{"aa"}, 1, 1}, {[]string{"aa"}, 10, 1},
		// The string at the very end of the first letters occurs nowhere before.
		{[]string{"acedbbd", "bde", "dbe", "d", "eeebd"}, 6, 76},
	} {
		if n, e := vine.Factors(c.vine, "a", c.length); n != c.want || e != api.OK {
			t.Error(c, n, e)
		}
	}
}

// TestFibonacci is P3.12.
func TestFibonacci(t *testing.T) {
	for length := 1; length <= 10; length++ {
		if n, e := vine.Factors(rabbit, "a", length); n != length+1 || e != api.OK {
			t.Error(length, n, e)
		}
	}
	now, next := 1, 2
	for year := 0; now <= api.MaxLong; year++ {
		if n, e := vine.Long(rabbit, "a", year); n != now || e != api.OK {
			t.Error(year, n, e)
		}
		now, next = next, now+next
	}
}
