package weed_test

import (
	"strings"
	"testing"

	"dibber/api"
	"dibber/weed"
)

func TestGrow(t *testing.T) {
	for _, c := range []struct {
		rule      int
		row, want string
	}{
		{90, "00100", "101"},
		{110, "000", "0"},
		{110, "011", "1"},
		{110, "100", "0"},
		{16, "100", "1"},
		{2, "001", "1"},
		{0, "1111", "00"},
		{255, "0000", "11"},
		{204, "01101", "110"},
		{170, strings.Repeat("01", 200), strings.Repeat("01", 199)},
	} {
		if row, e := weed.Grow(c.rule, c.row); row != c.want || e != api.OK {
			t.Error(c, row, e)
		}
	}
	for rule := range 256 {
		for _, row := range rows(5) {
			if got, e := weed.Grow(rule, row); got != grown(rule, row) || e != api.OK {
				t.Fatal(rule, row, got, e)
			}
		}
	}
}

func TestRing(t *testing.T) {
	for _, c := range []struct {
		rule  int
		row   string
		years int
		want  string
	}{
		{90, "00100", 1, "01010"},
		{90, "00100", 0, "00100"},
		{170, "0011", 3, "1001"},
		{170, "0011", 1000, "0011"},
		{170, "0011", 999, "1001"},
		{240, "1000", 1, "0100"},
		{1, "0", 1, "1"},
		{127, "1", 1, "0"},
		{4, "1", 1, "0"},
		{128, "1", 1000, "1"},
		{4, "01", 1, "01"},
		{32, "01", 1, "10"},
		{204, strings.Repeat("1", 400), 1000, strings.Repeat("1", 400)},
	} {
		if row, e := weed.Ring(c.rule, c.row, c.years); row != c.want || e != api.OK {
			t.Error(c, row, e)
		}
	}
	for rule := range 256 {
		for plots := 1; plots <= 5; plots++ {
			for _, row := range rows(plots) {
				want := ringed(rule, ringed(rule, row))
				if got, e := weed.Ring(rule, row, 2); got != want || e != api.OK {
					t.Fatal(rule, row, got, e)
				}
			}
		}
	}
}

func TestSettle(t *testing.T) {
	for _, c := range []struct {
		rule        int
		row         string
		before, per int
	}{
		{90, "0100", 2, 1},
		{170, "001", 0, 3},
		{204, "0110", 0, 1},
		{0, "1", 1, 1},
		{0, "0", 0, 1},
		{51, "01", 0, 2},
		{170, "0000000000000001", 0, 16},
		{0, "1111111111111111", 1, 1},
	} {
		if a, b, e := weed.Settle(c.rule, c.row); a != c.before || b != c.per || e != api.OK {
			t.Error(c, a, b, e)
		}
	}
	for rule := range 256 {
		for _, row := range append(rows(6), "0000000100110111", "1000110", "01") {
			wantSettled(t, rule, row)
		}
	}
}

// wantSettled looks at all years by their number.
func wantSettled(t *testing.T, rule int, row string) {
	t.Helper()
	years := []string{row}
	index := map[string]int{row: 0}
	for {
		next := ringed(rule, years[len(years)-1])
		if first, ok := index[next]; ok {
			if a, b, e := weed.Settle(rule, row); a != first || b != len(years)-first || e != api.OK {
				t.Fatal(rule, row, a, b, e)
			}
			return
		}
		index[next] = len(years)
		years = append(years, next)
	}
}

func TestWrongRules(t *testing.T) {
	for _, rule := range wrongRules {
		for _, row := range []string{"", "2", "0", "010", strings.Repeat("0", 500)} {
			if s, e := weed.Grow(rule, row); s != "" || e != api.ErrArg {
				t.Error("Grow", rule, row, s, e)
			}
			if s, e := weed.Ring(rule, row, -1); s != "" || e != api.ErrArg {
				t.Error("Ring", rule, row, s, e)
			}
			if s, e := weed.Back(rule, row); s != "" || e != api.ErrArg {
				t.Error("Back", rule, row, s, e)
			}
			if n, e := weed.Ways(rule, row); n != 0 || e != api.ErrArg {
				t.Error("Ways", rule, row, n, e)
			}
			if n, e := weed.Rings(rule, row); n != 0 || e != api.ErrArg {
				t.Error("Rings", rule, row, n, e)
			}
			if a, b, e := weed.Settle(rule, row); a != 0 || b != 0 || e != api.ErrArg {
				t.Error("Settle", rule, row, a, b, e)
			}
		}
		if s, e := weed.Eden(rule, 5); s != "" || e != api.ErrArg {
			t.Error("Eden", rule, s, e)
		}
		if ok, e := weed.Onto(rule); ok || e != api.ErrArg {
			t.Error("Onto", rule, ok, e)
		}
		if ok, e := weed.OneToOne(rule); ok || e != api.ErrArg {
			t.Error("OneToOne", rule, ok, e)
		}
		if a, b, e := weed.Twins(rule); a != "" || b != "" || e != api.ErrArg {
			t.Error("Twins", rule, a, b, e)
		}
		if a, b, e := weed.Mirror(rule); a != 0 || b != 0 || e != api.ErrArg {
			t.Error("Mirror", rule, a, b, e)
		}
		if ok, e := weed.Additive(rule); ok || e != api.ErrArg {
			t.Error("Additive", rule, ok, e)
		}
	}
}

func TestBadRows(t *testing.T) {
	for row, want := range badRows {
		if s, e := weed.Grow(204, row); s != "" || e != want {
			t.Error("Grow", row, s, e)
		}
		if s, e := weed.Ring(204, row, 1001); s != "" || e != want {
			t.Error("Ring", row, s, e)
		}
		if n, e := weed.Ways(204, row); n != 0 || e != want {
			t.Error("Ways", row, n, e)
		}
		if n, e := weed.Rings(204, row); n != 0 || e != want {
			t.Error("Rings", row, n, e)
		}
		if a, b, e := weed.Settle(204, row); a != 0 || b != 0 || e != want {
			t.Error("Settle", row, a, b, e)
		}
		if len(row) > 398 {
			want = api.ErrLimit
		}
		if s, e := weed.Back(204, row); s != "" || e != want {
			t.Error("Back", row, s, e)
		}
	}
}

func TestLimitsOfRows(t *testing.T) {
	for _, row := range []string{"0", "1", "01"} {
		if s, e := weed.Grow(90, row); s != "" || e != api.ErrForm {
			t.Error(row, s, e)
		}
	}
	for _, years := range []int{-1, 1001, -1 << 63, 1<<63 - 1} {
		if s, e := weed.Ring(90, "01", years); s != "" || e != api.ErrLimit {
			t.Error(years, s, e)
		}
	}
	if s, e := weed.Back(204, strings.Repeat("1", 399)); s != "" || e != api.ErrLimit {
		t.Error(s, e)
	}
	if s, e := weed.Back(0, strings.Repeat("1", 398)); s != "" || e != api.ErrPlan {
		t.Error(s, e)
	}
	if n, e := weed.Ways(204, strings.Repeat("1", 51)); n != 0 || e != api.ErrArg {
		t.Error(n, e)
	}
	if n, e := weed.Rings(204, strings.Repeat("1", 51)); n != 0 || e != api.ErrArg {
		t.Error(n, e)
	}
	if a, b, e := weed.Settle(204, strings.Repeat("1", 17)); a != 0 || b != 0 || e != api.ErrArg {
		t.Error(a, b, e)
	}
}
