package note

import "dibber/api"

// The kinds of a change.
const (
	nothing = iota
	put
	hide
	kinds
)

func isFrom(low, x, high int) bool {
	return low <= x && x <= high
}

func isLetter(b byte) bool {
	return 'a' <= b && b <= 'z'
}

func check(sheet []api.Cell) api.Errno {
	if len(sheet) > api.MaxCells {
		return api.ErrLimit
	}
	for _, cell := range sheet {
		if !isLetter(cell.Letter) {
			return api.ErrArg
		}
	}
	return api.OK
}

// fits reports whether a change fits a sheet of so many cells.
func fits(c api.Change, cells int) bool {
	switch c.Kind {
	case put:
		return isFrom(0, c.At, cells) && isLetter(c.Letter) && isFrom(0, c.Writer, api.MaxWriters-1)
	case hide:
		return isFrom(0, c.At, cells-1) && c.Letter == 0 && c.Writer == 0
	}
	return c == api.Change{Kind: nothing}
}

// after returns the sheet after a change that fits it, or ErrFull.
func after(sheet []api.Cell, c api.Change) ([]api.Cell, api.Errno) {
	switch c.Kind {
	case put:
		if len(sheet) == api.MaxCells {
			return nil, api.ErrFull
		}
		// As what is before the place is cut to its length, append copies it, and does not write over what comes after it.
		out := append(sheet[:c.At:c.At], api.Cell{Letter: c.Letter})
		return append(out, sheet[c.At:]...), api.OK
	case hide:
		out := copied(sheet)
		out[c.At].Hidden = true
		return out, api.OK
	}
	return copied(sheet), api.OK
}

func copied(sheet []api.Cell) []api.Cell {
	out := make([]api.Cell, len(sheet))
	copy(out, sheet)
	return out
}
