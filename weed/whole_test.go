package weed_test

import (
	"math"
	"slices"
	"strings"
	"testing"

	"dibber/api"
	"dibber/weed"
)

func TestEden(t *testing.T) {
	for _, c := range []struct {
		rule, most int
		want       string
		e          api.Errno
	}{
		{110, 20, "01010", api.OK},
		{110, 5, "01010", api.OK},
		{110, 4, "", api.ErrPlan},
		{0, 1, "1", api.OK},
		{255, 20, "0", api.OK},
		{90, 20, "", api.ErrPlan},
		{30, 20, "", api.ErrPlan},
		{110, 0, "", api.ErrArg},
		{110, 21, "", api.ErrArg},
		{110, -1, "", api.ErrArg},
		{90, math.MaxInt, "", api.ErrArg},
		{90, math.MinInt, "", api.ErrArg},
	} {
		if s, e := weed.Eden(c.rule, c.most); s != c.want || e != c.e {
			t.Error(c, s, e)
		}
	}
}

// TestEdenIsTheFirstOrphan looks at all rows up to nine plots by what Ways says of them.
func TestEdenIsTheFirstOrphan(t *testing.T) {
	for rule := range 256 {
		want := firstOrphan(rule, 9)
		s, e := weed.Eden(rule, 20)
		if want != "" && (s != want || e != api.OK) || want == "" && e == api.OK && len(s) <= 9 {
			t.Error(rule, s, e, want)
		}
		if e != api.OK {
			continue
		}
		if n, f := weed.Ways(rule, s); n != 0 || f != api.OK {
			t.Error(rule, s, n, f)
		}
		if again, f := weed.Eden(rule, len(s)); again != s || f != api.OK {
			t.Error(rule, again, f)
		}
		if len(s) > 1 {
			if none, f := weed.Eden(rule, len(s)-1); none != "" || f != api.ErrPlan {
				t.Error(rule, none, f)
			}
		}
	}
}

func firstOrphan(rule, most int) string {
	for plots := 1; plots <= most; plots++ {
		for _, row := range rows(plots) {
			if n, _ := weed.Ways(rule, row); n == 0 {
				return row
			}
		}
	}
	return ""
}

// Of the rules that are onto and those that are one to one, the lists are well known.
func TestOntoAndOneToOne(t *testing.T) {
	onto := []int{15, 30, 45, 51, 60, 75, 85, 86, 89, 90, 101, 102, 105, 106, 120, 135, 149, 150, 153, 154, 165, 166,
		169, 170, 180, 195, 204, 210, 225, 240}
	oneToOne := []int{15, 51, 85, 170, 204, 240}
	for rule := range 256 {
		if ok, e := weed.Onto(rule); ok != slices.Contains(onto, rule) || e != api.OK {
			t.Error("Onto", rule, ok, e)
		}
		if ok, e := weed.OneToOne(rule); ok != slices.Contains(oneToOne, rule) || e != api.OK {
			t.Error("OneToOne", rule, ok, e)
		}
	}
}

// P2.8 and P2.9.
func TestOntoMeansNoOrphansAndFourWays(t *testing.T) {
	for rule := range 256 {
		onto, _ := weed.Onto(rule)
		one, _ := weed.OneToOne(rule)
		_, e := weed.Eden(rule, 20)
		if one && !onto || onto != (e == api.ErrPlan) {
			t.Error(rule, one, onto, e)
		}
		four, more := true, false
		for plots := 1; plots <= 8; plots++ {
			for _, row := range rows(plots) {
				n, _ := weed.Ways(rule, row)
				four = four && n == 4
				more = more || n > 4
			}
		}
		if onto && !four || !onto && !more {
			t.Error(rule, onto, four, more)
		}
		if n, _ := weed.Ways(rule, strings.Repeat("01101", 10)); onto && n != 4 {
			t.Error(rule, n)
		}
	}
}

// P2.10: by rings of up to eight plots, which all twins have.
func TestOneToOneMeansOneRing(t *testing.T) {
	for rule := range 256 {
		one, _ := weed.OneToOne(rule)
		each := true
		for plots := 1; plots <= 8; plots++ {
			for _, row := range rows(plots) {
				n, _ := weed.Rings(rule, row)
				each = each && n == 1
				if first, _, e := weed.Settle(rule, row); one && (first != 0 || e != api.OK) {
					t.Error(rule, row, first, e)
				}
			}
		}
		if one != each {
			t.Error(rule, one, each)
		}
	}
}

func TestTwins(t *testing.T) {
	for _, c := range []struct {
		rule int
		a, b string
		e    api.Errno
	}{
		{90, "0", "1", api.OK},
		{0, "0", "1", api.OK},
		{170, "", "", api.ErrPlan},
		{204, "", "", api.ErrPlan},
		{51, "", "", api.ErrPlan},
	} {
		if a, b, e := weed.Twins(c.rule); a != c.a || b != c.b || e != c.e {
			t.Error(c, a, b, e)
		}
	}
	for rule := range 256 {
		one, _ := weed.OneToOne(rule)
		a, b, e := weed.Twins(rule)
		if one {
			if a != "" || b != "" || e != api.ErrPlan {
				t.Error(rule, a, b, e)
			}
			continue
		}
		if x, y := firstTwins(rule); a != x || b != y || e != api.OK {
			t.Error(rule, a, b, e, x, y)
		}
	}
}

// firstTwins looks at all pairs of rings with as many plots, in their order.
func firstTwins(rule int) (string, string) {
	for plots := 1; plots <= 9; plots++ {
		all := rows(plots)
		for i, a := range all {
			for _, b := range all[i+1:] {
				if ringed(rule, a) == ringed(rule, b) {
					return a, b
				}
			}
		}
	}
	return "", ""
}

func TestMirror(t *testing.T) {
	for _, c := range [][3]int{{110, 124, 137}, {30, 86, 135}, {0, 0, 255}, {255, 255, 0}, {170, 240, 170}, {90, 90, 165}} {
		if a, b, e := weed.Mirror(c[0]); a != c[1] || b != c[2] || e != api.OK {
			t.Error(c, a, b, e)
		}
	}
	for rule := range 256 {
		mirrored, exchanged, e := weed.Mirror(rule)
		if e != api.OK {
			t.Error(rule, e)
		}
		for _, row := range rows(5) {
			of := grown(rule, row)
			if s, _ := weed.Grow(mirrored, backwards(row)); s != backwards(of) {
				t.Error(rule, mirrored, row, s)
			}
			if s, _ := weed.Grow(exchanged, flipped(row)); s != flipped(of) {
				t.Error(rule, exchanged, row, s)
			}
		}
	}
}

// P2.12.
func TestMirroredRulesAreAlike(t *testing.T) {
	for rule := range 256 {
		mirrored, exchanged, _ := weed.Mirror(rule)
		for _, other := range []int{mirrored, exchanged} {
			a, _ := weed.Onto(rule)
			b, _ := weed.Onto(other)
			c, _ := weed.OneToOne(rule)
			d, _ := weed.OneToOne(other)
			if a != b || c != d {
				t.Error(rule, other, a, b, c, d)
			}
		}
		a, _ := weed.Additive(rule)
		b, _ := weed.Additive(mirrored)
		twice, _, _ := weed.Mirror(mirrored)
		_, same, _ := weed.Mirror(exchanged)
		if a != b || twice != rule || same != rule {
			t.Error(rule, a, b, twice, same)
		}
	}
}

func TestAdditive(t *testing.T) {
	additive := []int{0, 60, 90, 102, 150, 170, 204, 240}
	for rule := range 256 {
		if ok, e := weed.Additive(rule); ok != slices.Contains(additive, rule) || e != api.OK {
			t.Error(rule, ok, e)
		}
	}
}
