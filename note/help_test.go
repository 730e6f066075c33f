package note_test

import (
	"math"
	"math/rand"
	"slices"
	"strings"
	"testing"

	"dibber/api"
	"dibber/note"
)

func put(at int, letter byte, writer int) api.Change {
	return api.Change{Kind: 1, At: at, Letter: letter, Writer: writer}
}

func hide(at int) api.Change {
	return api.Change{Kind: 2, At: at}
}

// puts are those of a text, letter by letter.
func puts(at int, text string, writer int) []api.Change {
	var out []api.Change
	for i := range len(text) {
		out = append(out, put(at+i, text[i], writer))
	}
	return out
}

// sheet has a hidden cell for each letter that is written in capitals.
func sheet(text string) []api.Cell {
	var out []api.Cell
	for _, b := range []byte(text) {
		if b < 'a' {
			out = append(out, api.Cell{Letter: b + 'a' - 'A', Hidden: true})
		} else {
			out = append(out, api.Cell{Letter: b})
		}
	}
	return out
}

func long(cells int) []api.Cell {
	return sheet(strings.Repeat("a", cells))
}

// wrongLetters are bytes that are no letters.
func wrongLetters() []byte {
	return []byte{0, 1, ' ', 'A', 'Z', 'a' - 1, 'z' + 1, 'a' + 128, 255}
}

// wrongSheets are those that are not valid, by their errors.
func wrongSheets() map[api.Errno][][]api.Cell {
	tooLong := long(api.MaxCells + 1)
	tooLong[0].Letter = 'A'
	out := map[api.Errno][][]api.Cell{api.ErrLimit: {long(api.MaxCells + 1), tooLong, long(5000)}}
	for _, b := range wrongLetters() {
		for _, hidden := range []bool{false, true} {
			for at := range 3 {
				s := sheet("abc")
				s[at] = api.Cell{Letter: b, Hidden: hidden}
				out[api.ErrArg] = append(out[api.ErrArg], s)
			}
			out[api.ErrArg] = append(out[api.ErrArg], append(long(api.MaxCells-1), api.Cell{Letter: b, Hidden: hidden}))
		}
	}
	return out
}

// unfit are changes that do not fit a sheet of so many cells.
func unfit(cells int) []api.Change {
	out := []api.Change{
		{Kind: 0, At: 1}, {Kind: 0, At: -1}, {Kind: 0, Letter: 'a'}, {Kind: 0, Writer: 1}, {Kind: 0, Letter: 1},
		{Kind: 3}, {Kind: -1}, {Kind: 3, Letter: 'a'}, {Kind: -1, Letter: 'a'}, {Kind: math.MinInt}, {Kind: math.MaxInt}, {Kind: 1 << 32}, {Kind: 1<<32 + 1, Letter: 'a'},
		put(-1, 'a', 0), put(cells+1, 'a', 0), put(math.MinInt, 'a', 0), put(math.MaxInt, 'a', 0),
		put(0, 'a', -1), put(0, 'a', api.MaxWriters), put(0, 'a', math.MinInt), put(0, 'a', math.MaxInt),
		hide(-1), hide(cells), hide(cells + 1), hide(math.MinInt), hide(math.MaxInt),
		{Kind: 2, At: 0, Letter: 'a'}, {Kind: 2, At: 0, Writer: 1}, {Kind: 2, At: 0, Writer: -1},
	}
	for _, b := range wrongLetters() {
		out = append(out, put(0, b, 0))
	}
	return out
}

// everyChange has all changes that fit a sheet of so many cells, of some letters and writers.
func everyChange(cells int, letters string, writers int) []api.Change {
	out := []api.Change{{}}
	for at := range cells + 1 {
		for i := range len(letters) {
			for w := range writers {
				out = append(out, put(at, letters[i], w))
			}
		}
	}
	for at := range cells {
		out = append(out, hide(at))
	}
	return out
}

// someChange is a change at random that fits a sheet of so many cells.
func someChange(rng *rand.Rand, cells int) api.Change {
	kind := rng.Intn(10)
	if kind == 0 {
		return api.Change{}
	}
	if kind < 4 && cells > 0 {
		return hide(rng.Intn(cells))
	}
	return put(rng.Intn(cells+1), byte('a'+rng.Intn(3)), rng.Intn(api.MaxWriters))
}

// someList is of changes at random, each one after the other, of a sheet of so many cells.
func someList(rng *rand.Rand, cells, most int) []api.Change {
	var out []api.Change
	for range rng.Intn(most + 1) {
		c := someChange(rng, cells)
		if c.Kind == 1 {
			cells++
		}
		out = append(out, c)
	}
	return out
}

// after is the sheet after changes that must be done.
func after(t *testing.T, s []api.Cell, changes ...api.Change) []api.Cell {
	t.Helper()
	for _, c := range changes {
		next, e := note.Apply(s, c)
		if e != api.OK {
			t.Fatal(s, c, e)
		}
		s = next
	}
	return s
}

func turn(t *testing.T, c, against api.Change) api.Change {
	t.Helper()
	out, e := note.Turn(c, against)
	if e != api.OK {
		t.Fatal(c, against, e)
	}
	return out
}

// merged is the sheet that changes make which were all made of the same sheet. It puts them in at once: the letters at
// the same place by their writers, and those of one writer by the alphabet.
func merged(s []api.Cell, changes ...api.Change) []api.Cell {
	var out []api.Cell
	for place := range len(s) + 1 {
		var here []api.Change
		for _, c := range changes {
			if c.Kind == 1 && c.At == place {
				here = append(here, c)
			}
		}
		slices.SortStableFunc(here, func(a, b api.Change) int {
			if a.Writer != b.Writer {
				return a.Writer - b.Writer
			}
			return int(a.Letter) - int(b.Letter)
		})
		for _, c := range here {
			out = append(out, api.Cell{Letter: c.Letter})
		}
		if place < len(s) {
			hidden := s[place].Hidden || slices.Contains(changes, hide(place))
			out = append(out, api.Cell{Letter: s[place].Letter, Hidden: hidden})
		}
	}
	return out
}

// sheets are all of up to so many cells with the letters a and b.
func sheets(most int) [][]api.Cell {
	out := [][]api.Cell{nil}
	for first := 0; len(out[first]) < most; first++ {
		for _, more := range []string{"a", "A", "b", "B"} {
			out = append(out, slices.Concat(out[first], sheet(more)))
		}
	}
	return out
}
