package note_test

import (
	"math/rand"
	"slices"
	"testing"

	"dibber/api"
	"dibber/note"
)

func TestTurn(t *testing.T) {
	for _, x := range []struct{ c, against, want api.Change }{
		{api.Change{}, api.Change{}, api.Change{}},
		{api.Change{}, put(0, 'a', 0), api.Change{}},
		{api.Change{}, hide(0), api.Change{}},
		{put(2, 'a', 1), api.Change{}, put(2, 'a', 1)},
		{hide(2), api.Change{}, hide(2)},
		{put(2, 'a', 1), hide(0), put(2, 'a', 1)},
		{put(2, 'a', 1), hide(2), put(2, 'a', 1)},
		{hide(2), hide(0), hide(2)},
		{hide(2), hide(2), hide(2)},
		{put(2, 'c', 1), put(1, 'd', 2), put(3, 'c', 1)},
		{put(2, 'c', 1), put(1, 'c', 1), put(3, 'c', 1)},
		{put(2, 'c', 1), put(3, 'b', 0), put(2, 'c', 1)},
		{put(2, 'c', 1), put(2, 'd', 0), put(3, 'c', 1)},
		{put(2, 'c', 1), put(2, 'b', 2), put(2, 'c', 1)},
		{put(2, 'c', 1), put(2, 'b', 1), put(3, 'c', 1)},
		{put(2, 'c', 1), put(2, 'c', 1), put(2, 'c', 1)},
		{put(2, 'c', 1), put(2, 'd', 1), put(2, 'c', 1)},
		{hide(2), put(1, 'a', 0), hide(3)},
		{hide(2), put(2, 'a', 0), hide(3)},
		{hide(2), put(3, 'a', 0), hide(2)},
		{put(300, 'a', 4), put(299, 'z', 4), put(301, 'a', 4)},
		{put(300, 'a', 4), put(300, 'z', 3), put(301, 'a', 4)},
		{put(300, 'a', 0), put(300, 'z', 0), put(300, 'a', 0)},
		{hide(299), put(299, 'z', 4), hide(300)},
		{hide(299), put(300, 'z', 0), hide(299)},
	} {
		if c, e := note.Turn(x.c, x.against); c != x.want || e != api.OK {
			t.Error(x, c, e)
		}
	}
}

// TestTurnDoesTheSame compares with a sheet that both changes make at once.
func TestTurnDoesTheSame(t *testing.T) {
	for _, s := range [][]api.Cell{nil, sheet("p"), sheet("pQ"), sheet("pqr")} {
		all := everyChange(len(s), "abz", 3)
		for _, a := range all {
			for _, b := range all {
				if l := after(t, s, b, turn(t, a, b)); !slices.Equal(l, merged(s, a, b)) {
					t.Fatal(s, a, b, l)
				}
			}
		}
	}
}

func TestUnfitChanges(t *testing.T) {
	fine := put(300, 'z', 4)
	for _, c := range unfit(api.MaxCells) {
		for _, pair := range [][2]api.Change{{c, fine}, {fine, c}, {c, c}} {
			if x, e := note.Turn(pair[0], pair[1]); x != (api.Change{}) || e != api.ErrArg {
				t.Error(pair, x, e)
			}
		}
		for _, list := range [][3]api.Change{{c, fine, fine}, {fine, c, fine}, {fine, fine, c}, {c, c, c}} {
			if ok, e := note.Three(list[0], list[1], list[2]); ok || e != api.ErrArg {
				t.Error(list, ok, e)
			}
		}
		if x, e := note.Past(c, nil); x != (api.Change{}) || e != api.ErrArg {
			t.Error(c, x, e)
		}
		for _, others := range [][]api.Change{{c}, {c, fine}, {fine, c}} {
			if x, e := note.Past(fine, others); x != (api.Change{}) || e != api.ErrArg {
				t.Error(others, x, e)
			}
			for _, pair := range [][2][]api.Change{{others, nil}, {nil, others}, {others, {fine}}, {{fine}, others}} {
				if a, b, e := note.Both(pair[0], pair[1]); len(a) != 0 || len(b) != 0 || e != api.ErrArg {
					t.Error(pair, a, b, e)
				}
			}
		}
	}
	for _, c := range everyChange(api.MaxCells, "az", api.MaxWriters) {
		if _, e := note.Turn(c, c); e != api.OK {
			t.Fatal(c, e)
		}
	}
}

func TestPast(t *testing.T) {
	for _, x := range []struct {
		c      api.Change
		others []api.Change
		want   api.Change
	}{
		{put(3, 'a', 2), nil, put(3, 'a', 2)},
		{hide(0), puts(0, "xyz", 0), hide(3)},
		{hide(0), puts(1, "xyz", 0), hide(0)},
		{put(0, 'a', 1), puts(0, "xyz", 0), put(3, 'a', 1)},
		{put(0, 'a', 1), puts(0, "xyz", 2), put(0, 'a', 1)},
		{put(1, 'a', 1), puts(0, "xyz", 2), put(4, 'a', 1)},
		{put(1, 'a', 1), []api.Change{hide(0), put(1, 'b', 1), {}, put(0, 'b', 1)}, put(2, 'a', 1)},
		{put(1, 'c', 1), []api.Change{put(1, 'b', 1), put(2, 'd', 1), put(2, 'a', 2), put(2, 'a', 0)}, put(3, 'c', 1)},
		{api.Change{}, puts(0, "xyz", 0), api.Change{}},
		// That a place is not far enough on at first changes what comes later.
		{hide(1), []api.Change{put(2, 'a', 0), put(1, 'b', 0)}, hide(2)},
		{hide(1), []api.Change{put(1, 'b', 0), put(2, 'a', 0)}, hide(3)},
	} {
		if c, e := note.Past(x.c, x.others); c != x.want || e != api.OK {
			t.Error(x, c, e)
		}
	}
	rng := rand.New(rand.NewSource(71))
	for range 500 {
		// Places stay below MaxCells, so that Turn takes them.
		c, others := someChange(rng, 30), someList(rng, 30, 20)
		want := c
		for _, other := range others {
			want = turn(t, want, other)
		}
		if x, e := note.Past(c, others); x != want || e != api.OK {
			t.Fatal(c, others, x, e, want)
		}
	}
}

func TestPastLimits(t *testing.T) {
	most := slices.Repeat([]api.Change{put(0, 'a', 0)}, api.MaxChanges)
	for _, x := range []struct{ c, want api.Change }{{put(300, 'z', 4), put(800, 'z', 4)}, {hide(299), hide(799)}, {hide(0), hide(500)}, {put(0, 'a', 0), put(0, 'a', 0)}} {
		if c, e := note.Past(x.c, most); c != x.want || e != api.OK {
			t.Error(x, c, e)
		}
	}
	unfitting := slices.Concat([]api.Change{{Kind: 3}}, most)
	for _, x := range []struct {
		c      api.Change
		others []api.Change
		want   api.Errno
	}{
		{api.Change{Kind: 3}, unfitting, api.ErrArg},
		{hide(300), slices.Concat(most, most), api.ErrArg},
		{hide(299), unfitting, api.ErrLimit},
		{hide(299), slices.Concat(most, most), api.ErrLimit},
		{hide(299), slices.Concat(most, most[:1]), api.ErrLimit},
		{hide(299), unfitting[:500], api.ErrArg},
		{hide(299), slices.Concat(most[:499], unfitting[:1]), api.ErrArg},
	} {
		if c, e := note.Past(x.c, x.others); c != (api.Change{}) || e != x.want {
			t.Error(x.c, len(x.others), c, e)
		}
	}
}

func TestBoth(t *testing.T) {
	for _, x := range []struct{ a, b, wantA, wantB []api.Change }{
		{nil, nil, nil, nil},
		{puts(1, "xy", 0), nil, puts(1, "xy", 0), nil},
		{nil, puts(1, "xy", 0), nil, puts(1, "xy", 0)},
		{[]api.Change{{}}, []api.Change{hide(0)}, []api.Change{{}}, []api.Change{hide(0)}},
		{puts(0, "cd", 0), puts(0, "ab", 1), puts(0, "cd", 0), puts(2, "ab", 1)},
		{puts(0, "ab", 1), puts(0, "cd", 0), puts(2, "ab", 1), puts(0, "cd", 0)},
		{[]api.Change{put(0, 'x', 0), put(1, 'y', 0)}, []api.Change{hide(0), put(0, 'z', 1)}, []api.Change{put(0, 'x', 0), put(1, 'y', 0)}, []api.Change{hide(2), put(2, 'z', 1)}},
		// Both put a letter before the same cell, then go on before and behind it.
		{[]api.Change{put(1, 'x', 1), put(1, 'y', 1), hide(0)}, []api.Change{put(1, 'v', 0), put(2, 'w', 0), put(1, 'u', 0)},
			[]api.Change{put(4, 'x', 1), put(4, 'y', 1), hide(0)}, []api.Change{put(1, 'v', 0), put(2, 'w', 0), put(1, 'u', 0)}},
		{[]api.Change{put(0, 'x', 1), hide(1)}, []api.Change{hide(0), put(1, 'y', 0)}, []api.Change{put(0, 'x', 1), hide(1)}, []api.Change{hide(1), put(2, 'y', 0)}},
	} {
		a, b, e := note.Both(x.a, x.b)
		if !slices.Equal(a, x.wantA) || !slices.Equal(b, x.wantB) || e != api.OK {
			t.Error(x, a, b, e)
		}
	}
}

func TestBothLimits(t *testing.T) {
	most, ends := slices.Repeat([]api.Change{put(0, 'a', 0)}, 500), slices.Repeat([]api.Change{put(300, 'z', 1)}, 500)
	a, b, e := note.Both(most, ends)
	if !slices.Equal(a, most) || !slices.Equal(b, slices.Repeat([]api.Change{put(800, 'z', 1)}, 500)) || e != api.OK {
		t.Error(a, b, e)
	}
	b, a, e = note.Both(ends, most)
	if !slices.Equal(a, most) || !slices.Equal(b, slices.Repeat([]api.Change{put(800, 'z', 1)}, 500)) || e != api.OK {
		t.Error(a, b, e)
	}
	tooLong := slices.Concat(most, most[:1])
	unfitting := slices.Concat(most[:499], []api.Change{hide(300)})
	for _, x := range []struct {
		a, b []api.Change
		want api.Errno
	}{
		{tooLong, unfitting, api.ErrLimit},
		{slices.Concat(unfitting, unfitting), most, api.ErrLimit},
		{unfitting, tooLong, api.ErrArg},
		{unfitting, most, api.ErrArg},
		{most, slices.Concat(unfitting, most[:1]), api.ErrLimit},
		{nil, tooLong, api.ErrLimit},
		{most, unfitting, api.ErrArg},
		{nil, unfitting, api.ErrArg},
		{most, most, api.OK},
	} {
		a, b, e := note.Both(x.a, x.b)
		if e != x.want || e != api.OK && len(a)+len(b) != 0 {
			t.Error(len(x.a), len(x.b), len(a), len(b), e, x.want)
		}
	}
}

// TestListsAreNewMemory changes results, and looks at what lies behind arguments.
func TestListsAreNewMemory(t *testing.T) {
	rng := rand.New(rand.NewSource(72))
	for range 300 {
		a, b := someList(rng, 5, 6), someList(rng, 5, 6)
		wholeA, wholeB := slices.Concat(a, puts(0, "abcdefgh", 0)), slices.Concat(b, puts(0, "abcdefgh", 0))
		beforeA, beforeB := slices.Clone(wholeA), slices.Clone(wholeB)
		x, y, e := note.Both(wholeA[:len(a)], wholeB[:len(b)])
		if e != api.OK {
			t.Fatal(a, b, e)
		}
		keptY := slices.Clone(y)
		for i := range x {
			x[i] = hide(7)
		}
		x = append(x, puts(0, "zzzzz", 4)...)
		if !slices.Equal(y, keptY) {
			t.Fatal("both lists share memory", a, b, x, y)
		}
		for i := range y {
			y[i] = hide(7)
		}
		y = append(y, puts(0, "zzzzz", 4)...)
		if _, e := note.Past(put(0, 'a', 0), wholeB[:len(b)]); e != api.OK {
			t.Fatal(b, e)
		}
		if !slices.Equal(wholeA, beforeA) || !slices.Equal(wholeB, beforeB) {
			t.Fatal("an argument was changed", a, b, x, y)
		}
	}
}

// TestTheoremOfLists is also one of hidden cells, as many of the changes hide the same ones.
func TestTheoremOfLists(t *testing.T) {
	rng := rand.New(rand.NewSource(73))
	for range 4000 {
		s := long(rng.Intn(6))
		a, b := someList(rng, len(s), 12), someList(rng, len(s), 12)
		lateA, lateB, e := note.Both(a, b)
		if len(lateA) != len(a) || len(lateB) != len(b) || e != api.OK {
			t.Fatal(a, b, lateA, lateB, e)
		}
		one := after(t, after(t, s, a...), lateB...)
		other := after(t, after(t, s, b...), lateA...)
		if !slices.Equal(one, other) {
			t.Fatal(s, a, b, one, other)
		}
		for i, c := range a {
			want, e := note.Past(c, partly(t, a[:i], b))
			if lateA[i] != want || e != api.OK {
				t.Fatal(a, b, i, lateA[i], want, e)
			}
		}
	}
}

// partly is the list b as it is to be done after a.
func partly(t *testing.T, a, b []api.Change) []api.Change {
	t.Helper()
	for _, c := range a {
		_, late, e := note.Both([]api.Change{c}, b)
		if e != api.OK {
			t.Fatal(a, b, e)
		}
		b = late
	}
	return b
}

func TestTheoremOfTwo(t *testing.T) {
	for _, s := range sheets(2) {
		all := everyChange(len(s), "abz", 3)
		for _, a := range all {
			for _, b := range all {
				if ok, e := note.Cross(s, a, b); !ok || e != api.OK {
					t.Fatal(s, a, b, ok, e)
				}
			}
		}
	}
	rng := rand.New(rand.NewSource(74))
	for range 500 {
		s := long(rng.Intn(299))
		a, b := someChange(rng, len(s)), someChange(rng, len(s))
		if ok, e := note.Cross(s, a, b); !ok || e != api.OK {
			t.Fatal(len(s), a, b, ok, e)
		}
	}
}

func TestCrossErrors(t *testing.T) {
	for _, n := range []int{0, 1, 300} {
		for _, c := range unfit(n) {
			for _, other := range []api.Change{{}, put(0, 'a', 0), c} {
				if ok, e := note.Cross(long(n), c, other); ok || e != api.ErrArg {
					t.Error(n, c, other, ok, e)
				}
				if ok, e := note.Cross(long(n), other, c); ok || e != api.ErrArg {
					t.Error(n, other, c, ok, e)
				}
			}
		}
	}
	for _, x := range []struct {
		cells int
		a, b  api.Change
		want  api.Errno
	}{
		{300, put(0, 'a', 0), api.Change{}, api.ErrFull},
		{300, api.Change{}, put(300, 'a', 0), api.ErrFull},
		{300, put(0, 'a', 0), hide(0), api.ErrFull},
		{300, hide(0), put(0, 'a', 0), api.ErrFull},
		{300, put(0, 'a', 0), put(0, 'a', 0), api.ErrFull},
		{299, put(0, 'a', 0), put(299, 'a', 0), api.ErrFull},
		{299, put(299, 'a', 0), hide(298), api.OK},
		{299, hide(0), put(0, 'a', 0), api.OK},
		{298, put(298, 'a', 0), put(298, 'a', 1), api.OK},
		{300, hide(0), hide(299), api.OK},
		{300, api.Change{}, api.Change{}, api.OK},
	} {
		if ok, e := note.Cross(long(x.cells), x.a, x.b); ok != (x.want == api.OK) || e != x.want {
			t.Error(x, ok, e)
		}
	}
}

func TestTheoremOfThree(t *testing.T) {
	all := everyChange(3, "ab", 3)
	for _, a := range all {
		for _, b := range all {
			for _, c := range all {
				if ok, e := note.Three(a, b, c); !ok || e != api.OK {
					t.Fatal(a, b, c, ok, e)
				}
			}
		}
	}
	rng := rand.New(rand.NewSource(75))
	for range 2000 {
		s := sheet("pqrst")
		a, b, c := someChange(rng, 5), someChange(rng, 5), someChange(rng, 5)
		one := after(t, s, a, turn(t, b, a), turn(t, turn(t, c, a), turn(t, b, a)))
		other := after(t, s, b, turn(t, a, b), turn(t, turn(t, c, b), turn(t, a, b)))
		if want := merged(s, a, b, c); !slices.Equal(one, want) || !slices.Equal(other, want) {
			t.Fatal(a, b, c, one, other, want)
		}
	}
	for _, c := range []api.Change{put(300, 'a', 0), put(300, 'a', 1), put(299, 'b', 0), hide(299), {}} {
		if ok, e := note.Three(put(300, 'b', 1), put(300, 'z', 4), c); !ok || e != api.OK {
			t.Error(c, ok, e)
		}
	}
}
