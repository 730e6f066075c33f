package note_test

import (
	"math"
	"slices"
	"strings"
	"testing"

	"dibber/api"
	"dibber/note"
)

// onSheet has all functions of a sheet, with further arguments that are valid (of the empty one, too).
func onSheet(s []api.Cell) map[string]func() (bool, api.Errno) {
	return map[string]func() (bool, api.Errno){
		"Apply": func() (bool, api.Errno) { l, e := note.Apply(s, api.Change{}); return len(l) == 0, e },
		"Read":  func() (bool, api.Errno) { l, e := note.Read(s); return l == "", e },
		"Clean": func() (bool, api.Errno) { l, e := note.Clean(s); return len(l) == 0, e },
		"Find":  func() (bool, api.Errno) { i, e := note.Find(s, 0); return i == 0, e },
		"Type":  func() (bool, api.Errno) { l, e := note.Type(s, 0, "a", 0); return len(l) == 0, e },
		"Cross": func() (bool, api.Errno) { ok, e := note.Cross(s, api.Change{}, api.Change{}); return !ok, e },
	}
}

func badOnSheet(s []api.Cell) map[string]func() (bool, api.Errno) {
	return map[string]func() (bool, api.Errno){
		"Apply": func() (bool, api.Errno) { l, e := note.Apply(s, api.Change{Kind: 3}); return len(l) == 0, e },
		"Find":  func() (bool, api.Errno) { i, e := note.Find(s, -1); return i == 0, e },
		"Type": func() (bool, api.Errno) {
			l, e := note.Type(s, -1, strings.Repeat("A", 301), -1)
			return len(l) == 0, e
		},
		"Cross": func() (bool, api.Errno) { ok, e := note.Cross(s, put(-1, 'a', 0), hide(-1)); return !ok, e },
	}
}

func TestWrongSheets(t *testing.T) {
	for want, list := range wrongSheets() {
		for _, s := range list {
			for _, calls := range []map[string]func() (bool, api.Errno){onSheet(s), badOnSheet(s)} {
				for name, call := range calls {
					if zero, e := call(); !zero || e != want {
						t.Fatal(name, s, zero, e, want)
					}
				}
			}
		}
	}
}

func TestEmptyAndLongSheets(t *testing.T) {
	for _, s := range [][]api.Cell{nil, {}, sheet("az"), sheet("ZA"), long(299)} {
		for name, call := range onSheet(s) {
			if _, e := call(); e != api.OK {
				t.Error(name, s, e)
			}
		}
	}
	for name, call := range onSheet(long(api.MaxCells)) {
		if _, e := call(); e != api.OK && name != "Type" {
			t.Error(name, e)
		}
	}
}

func TestApply(t *testing.T) {
	for _, c := range []struct {
		before string
		change api.Change
		want   string
	}{
		{"", api.Change{}, ""},
		{"", put(0, 'z', 4), "z"},
		{"ab", api.Change{}, "ab"},
		{"aB", put(0, 'c', 0), "caB"},
		{"aB", put(1, 'c', 1), "acB"},
		{"aB", put(2, 'a', 2), "aBa"},
		{"aB", hide(0), "AB"},
		{"aB", hide(1), "aB"},
		{"abc", hide(1), "aBc"},
		{"abc", hide(2), "abC"},
		{"aBcD", put(3, 'e', 3), "aBceD"},
	} {
		if l, e := note.Apply(sheet(c.before), c.change); !slices.Equal(l, sheet(c.want)) || e != api.OK {
			t.Error(c, l, e)
		}
	}
	for _, s := range sheets(3) {
		for _, c := range everyChange(len(s), "abz", api.MaxWriters) {
			if l, e := note.Apply(s, c); !slices.Equal(l, merged(s, c)) || e != api.OK {
				t.Fatal(s, c, l, e)
			}
		}
	}
}

func TestApplyUnfitChanges(t *testing.T) {
	for _, n := range []int{0, 1, 2, 299, 300} {
		for _, c := range unfit(n) {
			if l, e := note.Apply(long(n), c); len(l) != 0 || e != api.ErrArg {
				t.Error(n, c, l, e)
			}
		}
	}
}

func TestApplyToFullSheets(t *testing.T) {
	for _, at := range []int{0, 150, 299, 300} {
		if l, e := note.Apply(long(300), put(at, 'a', 0)); len(l) != 0 || e != api.ErrFull {
			t.Error(at, len(l), e)
		}
		if l, e := note.Apply(long(299), put(min(at, 299), 'a', 0)); !slices.Equal(l, long(300)) || e != api.OK {
			t.Error(at, len(l), e)
		}
	}
	hidden := sheet(strings.Repeat("A", 300))
	if l, e := note.Apply(hidden, put(0, 'a', 0)); len(l) != 0 || e != api.ErrFull {
		t.Error(len(l), e)
	}
	for _, c := range []api.Change{{}, hide(0), hide(299)} {
		if l, e := note.Apply(hidden, c); !slices.Equal(l, hidden) || e != api.OK {
			t.Error(c, l, e)
		}
	}
}

// TestSheetsAreNewMemory changes results, and looks at what lies behind arguments.
func TestSheetsAreNewMemory(t *testing.T) {
	for _, c := range everyChange(3, "z", 1) {
		all := sheet("abcdef")
		l, e := note.Apply(all[:3], c)
		if e != api.OK {
			t.Fatal(c, e)
		}
		for i := range l {
			l[i] = api.Cell{Letter: 'x', Hidden: true}
		}
		l = append(l, long(10)...)
		if !slices.Equal(all, sheet("abcdef")) {
			t.Error(c, all, l)
		}
	}
	for _, text := range []string{"abcdef", "ABcdef", "aBcDef", "abCdef"} {
		all := sheet(text)
		l, e := note.Clean(all[:3])
		if e != api.OK {
			t.Fatal(e)
		}
		for i := range l {
			l[i] = api.Cell{Letter: 'x', Hidden: true}
		}
		l = append(l, long(10)...)
		if !slices.Equal(all, sheet(text)) {
			t.Error(all, l)
		}
	}
}

func TestReadAndClean(t *testing.T) {
	for _, c := range [][2]string{{"", ""}, {"A", ""}, {"aBc", "ac"}, {"AbC", "b"}, {"ABCabcXYZxyz", "abcxyz"}, {"zza", "zza"}, {strings.Repeat("aB", 150), strings.Repeat("a", 150)}} {
		if s, e := note.Read(sheet(c[0])); s != c[1] || e != api.OK {
			t.Error(c, s, e)
		}
		if l, e := note.Clean(sheet(c[0])); !slices.Equal(l, sheet(c[1])) || e != api.OK {
			t.Error(c, l, e)
		}
	}
}

// TestHidden is a theorem: what is clean reads the same, and hiding twice is hiding once.
func TestHidden(t *testing.T) {
	for _, s := range sheets(4) {
		l, e := note.Clean(s)
		if e != api.OK || slices.ContainsFunc(l, func(c api.Cell) bool { return c.Hidden }) {
			t.Fatal(s, l, e)
		}
		a, e := note.Read(s)
		b, f := note.Read(l)
		if a != b || e != api.OK || f != api.OK {
			t.Fatal(s, a, b, e, f)
		}
		for at := range s {
			once := after(t, s, hide(at))
			if twice := after(t, once, hide(at)); !slices.Equal(once, twice) || turn(t, hide(at), hide(at)) != hide(at) {
				t.Fatal(s, at, once, twice)
			}
		}
	}
}

func TestFind(t *testing.T) {
	for _, c := range []struct {
		text   string
		places []int
	}{
		{"", []int{0}},
		{"A", []int{1}},
		{"a", []int{0, 1}},
		{"aBc", []int{0, 2, 3}},
		{"AbCCdE", []int{1, 4, 6}},
		{"ABC", []int{3}},
	} {
		for at, want := range c.places {
			if i, e := note.Find(sheet(c.text), at); i != want || e != api.OK {
				t.Error(c, at, i, e)
			}
		}
		for _, at := range []int{-1, len(c.places), len(c.places) + 1, math.MinInt, math.MaxInt, -len(c.places)} {
			if i, e := note.Find(sheet(c.text), at); i != 0 || e != api.ErrRange {
				t.Error(c, at, i, e)
			}
		}
	}
	if i, e := note.Find(long(300), 300); i != 300 || e != api.OK {
		t.Error(i, e)
	}
}

func TestType(t *testing.T) {
	for _, c := range []struct {
		before string
		at     int
		text   string
		first  int
		want   string
	}{
		{"", 0, "", 0, ""},
		{"", 0, "hello", 0, "hello"},
		{"aBc", 0, "xy", 0, "xyaBc"},
		{"aBc", 1, "xyz", 2, "aBxyzc"},
		{"aBc", 2, "x", 3, "aBcx"},
		{"aBcD", 2, "az", 4, "aBcDaz"},
		{"AB", 0, "az", 2, "ABaz"},
		{"AbC", 0, "", 1, "AbC"},
	} {
		for w := range api.MaxWriters {
			l, e := note.Type(sheet(c.before), c.at, c.text, w)
			if !slices.Equal(l, puts(c.first, c.text, w)) || e != api.OK {
				t.Error(c, w, l, e)
			}
			if s := after(t, sheet(c.before), l...); !slices.Equal(s, sheet(c.want)) {
				t.Error(c, w, s)
			}
		}
	}
	if l, e := note.Type(nil, 0, strings.Repeat("ab", 150), 4); len(l) != 300 || e != api.OK {
		t.Error(len(l), e)
	}
	if l, e := note.Type(long(299), 299, "a", 0); !slices.Equal(l, puts(299, "a", 0)) || e != api.OK {
		t.Error(l, e)
	}
	if l, e := note.Type(long(300), 0, "", 0); len(l) != 0 || e != api.OK {
		t.Error(l, e)
	}
}

func TestTypeErrors(t *testing.T) {
	fine := strings.Repeat("a", 300)
	for _, c := range []struct {
		cells, at int
		text      string
		writer    int
		want      api.Errno
	}{
		{3, 4, fine + "A", 5, api.ErrRange},
		{3, -1, fine + "a", 5, api.ErrRange},
		{3, -1, "a", 0, api.ErrRange},
		{3, 3, fine + "A", 5, api.ErrLimit},
		{0, 0, fine + "a", 0, api.ErrLimit},
		{3, 3, fine[:299] + "A", 5, api.ErrForm},
		{0, 0, "A" + fine[:299], 0, api.ErrForm},
		{0, 0, "a b", 0, api.ErrForm},
		{0, 0, "ab\x00", 0, api.ErrForm},
		{0, 0, "`", 0, api.ErrForm},
		{0, 0, "{", 0, api.ErrForm},
		{0, 0, "\u00e4", 0, api.ErrForm},
		{0, 0, "\xff", 0, api.ErrForm},
		{3, 3, fine, 5, api.ErrArg},
		{3, 3, fine, -1, api.ErrArg},
		{0, 0, "", 5, api.ErrArg},
		{0, 0, "", math.MinInt, api.ErrArg},
		{0, 0, "", math.MaxInt, api.ErrArg},
		{3, 3, fine, 4, api.ErrFull},
		{3, 3, fine[:298], 0, api.ErrFull},
		{300, 0, "a", 0, api.ErrFull},
		{3, 3, fine[:297], 0, api.OK},
	} {
		l, e := note.Type(long(c.cells), c.at, c.text, c.writer)
		if e != c.want || e != api.OK && len(l) != 0 {
			t.Error(c, len(l), e)
		}
	}
	// Hidden cells count.
	if l, e := note.Type(sheet(strings.Repeat("A", 299)), 0, "ab", 0); len(l) != 0 || e != api.ErrFull {
		t.Error(l, e)
	}
}
