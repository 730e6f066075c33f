package weed_test

import (
	"math/rand"
	"strings"
	"testing"

	"dibber/api"
	"dibber/weed"
)

func TestBackAndWays(t *testing.T) {
	if s, e := weed.Back(90, "0"); s != "000" || e != api.OK {
		t.Error(s, e)
	}
	if n, e := weed.Ways(90, "0"); n != 4 || e != api.OK {
		t.Error(n, e)
	}
	for rule := range 256 {
		for plots := 1; plots <= 5; plots++ {
			wantBackAndWays(t, rule, plots)
		}
	}
}

// wantBackAndWays looks at all rows with two plots more.
func wantBackAndWays(t *testing.T, rule, plots int) {
	t.Helper()
	ways := map[string]int{}
	least := map[string]string{}
	for _, row := range rows(plots + 2) {
		of := grown(rule, row)
		ways[of]++
		if ways[of] == 1 {
			least[of] = row
		}
	}
	for _, row := range rows(plots) {
		if n, e := weed.Ways(rule, row); n != ways[row] || e != api.OK {
			t.Fatal("Ways", rule, row, n, e)
		}
		want := api.OK
		if ways[row] == 0 {
			want = api.ErrPlan
		}
		if s, e := weed.Back(rule, row); s != least[row] || e != want {
			t.Fatal("Back", rule, row, s, e)
		}
	}
}

func TestRings(t *testing.T) {
	for rule := range 256 {
		for plots := 1; plots <= 6; plots++ {
			count := map[string]int{}
			for _, row := range rows(plots) {
				count[ringed(rule, row)]++
			}
			for _, row := range rows(plots) {
				if n, e := weed.Rings(rule, row); n != count[row] || e != api.OK {
					t.Fatal(rule, row, n, e)
				}
			}
		}
	}
}

func TestCountsOfTheLongest(t *testing.T) {
	zeros := strings.Repeat("0", 50)
	if n, e := weed.Ways(0, zeros); n != 1<<52 || e != api.OK {
		t.Error(n, e)
	}
	if n, e := weed.Rings(0, zeros); n != 1<<50 || e != api.OK {
		t.Error(n, e)
	}
	if n, e := weed.Ways(90, zeros); n != 4 || e != api.OK {
		t.Error(n, e)
	}
	if n, e := weed.Rings(90, zeros); n != 4 || e != api.OK {
		t.Error(n, e)
	}
	if n, e := weed.Rings(0, strings.Repeat("1", 50)); n != 0 || e != api.OK {
		t.Error(n, e)
	}
}

func TestBackOfLongRows(t *testing.T) {
	rng := rand.New(rand.NewSource(1))
	for range 400 {
		rule, plots := rng.Intn(256), 10+rng.Intn(391)
		row := someRow(rng, plots)
		of, e := weed.Grow(rule, row)
		if e != api.OK {
			t.Fatal(rule, row, e)
		}
		least, e := weed.Back(rule, of)
		if e != api.OK || len(least) != plots || least > row || grown(rule, least) != of {
			t.Fatal(rule, row, least, e)
		}
	}
}

func someRow(rng *rand.Rand, plots int) string {
	out := make([]byte, plots)
	for i := range out {
		out[i] = '0' + byte(rng.Intn(2))
	}
	return string(out)
}

// P2.11, of rows that are too long to look at all that come before them.
func TestBackSucceedsIfThereAreWays(t *testing.T) {
	rng := rand.New(rand.NewSource(2))
	for range 3000 {
		rule, row := rng.Intn(256), someRow(rng, 1+rng.Intn(50))
		n, e := weed.Ways(rule, row)
		if e != api.OK {
			t.Fatal(rule, row, e)
		}
		s, e := weed.Back(rule, row)
		if (e == api.OK) != (n > 0) || e == api.OK && grown(rule, s) != row {
			t.Fatal(rule, row, n, s, e)
		}
	}
}

// P2.11: all rows together, and all rings together.
func TestSumsOfWaysAndRings(t *testing.T) {
	for rule := range 256 {
		for plots := 1; plots <= 8; plots++ {
			ways, rings := 0, 0
			for _, row := range rows(plots) {
				n, _ := weed.Ways(rule, row)
				m, _ := weed.Rings(rule, row)
				ways += n
				rings += m
			}
			if ways != 1<<(plots+2) || rings != 1<<plots {
				t.Fatal(rule, plots, ways, rings)
			}
		}
	}
}

// P2.13: all rows that come of any rows of an additive rule come of equally many.
func TestWaysOfAdditiveRules(t *testing.T) {
	for rule := range 256 {
		if ok, _ := weed.Additive(rule); !ok {
			continue
		}
		for plots := 1; plots <= 8; plots++ {
			want, _ := weed.Ways(rule, strings.Repeat("0", plots))
			for _, row := range rows(plots) {
				if n, e := weed.Ways(rule, row); n != 0 && n != want || e != api.OK {
					t.Fatal(rule, row, n, e)
				}
			}
		}
	}
}
