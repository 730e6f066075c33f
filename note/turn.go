package note

import (
	"cmp"
	"slices"

	"dibber/api"
)

// turners returns what turns a change of each kind against one of each kind.
func turners() [kinds][kinds]func(c, against api.Change) api.Change {
	return [kinds][kinds]func(c, against api.Change) api.Change{
		nothing: {nothing: asItIs, put: asItIs, hide: asItIs},
		put:     {nothing: asItIs, put: putAgainstPut, hide: asItIs},
		hide:    {nothing: asItIs, put: hideAgainstPut, hide: asItIs},
	}
}

func asItIs(c, _ api.Change) api.Change {
	return c
}

func putAgainstPut(c, against api.Change) api.Change {
	if cmp.Or(cmp.Compare(against.At, c.At), cmp.Compare(against.Writer, c.Writer), cmp.Compare(against.Letter, c.Letter)) < 0 {
		c.At++
	}
	return c
}

func hideAgainstPut(c, against api.Change) api.Change {
	if against.At <= c.At {
		c.At++
	}
	return c
}

func turned(c, against api.Change) api.Change {
	return turners()[c.Kind][against.Kind](c, against)
}

// across returns a change as it is to be done after all others, and these as they are to be done after it.
func across(c api.Change, others []api.Change) (api.Change, []api.Change) {
	out := make([]api.Change, len(others))
	for i, other := range others {
		out[i] = turned(other, c)
		c = turned(c, other)
	}
	return c, out
}

// areChanges reports whether changes fit a sheet of as many cells as can be.
func areChanges(list ...api.Change) bool {
	return !slices.ContainsFunc(list, func(c api.Change) bool { return !fits(c, api.MaxCells) })
}

func checkList(list []api.Change) api.Errno {
	if len(list) > api.MaxChanges {
		return api.ErrLimit
	}
	if !areChanges(list...) {
		return api.ErrArg
	}
	return api.OK
}

// Turn returns the change that does the same as c after another one.
func Turn(c, against api.Change) (api.Change, api.Errno) {
	if !areChanges(c, against) {
		return api.Change{}, api.ErrArg
	}
	return turned(c, against), api.OK
}

// Past returns the change that does the same as c after others, each one of which was made after those before it.
func Past(c api.Change, others []api.Change) (api.Change, api.Errno) {
	if !areChanges(c) {
		return api.Change{}, api.ErrArg
	}
	if e := checkList(others); e != api.OK {
		return api.Change{}, e
	}
	out, _ := across(c, others)
	return out, api.OK
}

// Both returns the list a as it is to be done after all of b, and b as it is to be done after all of a.
func Both(a, b []api.Change) ([]api.Change, []api.Change, api.Errno) {
	for _, list := range [2][]api.Change{a, b} {
		if e := checkList(list); e != api.OK {
			return nil, nil, e
		}
	}
	out := make([]api.Change, len(a))
	others := slices.Clone(b)
	for i, c := range a {
		out[i], others = across(c, others)
	}
	return out, others, api.OK
}

// Cross reports whether a sheet is the same after a and then b, turned, as after b and then a, turned.
func Cross(sheet []api.Cell, a, b api.Change) (bool, api.Errno) {
	if e := check(sheet); e != api.OK {
		return false, e
	}
	if !fits(a, len(sheet)) || !fits(b, len(sheet)) {
		return false, api.ErrArg
	}
	one, e := afterBoth(sheet, a, turned(b, a))
	if e != api.OK {
		return false, e
	}
	other, e := afterBoth(sheet, b, turned(a, b))
	if e != api.OK {
		return false, e
	}
	return slices.Equal(one, other), api.OK
}

func afterBoth(sheet []api.Cell, first, second api.Change) ([]api.Cell, api.Errno) {
	between, e := after(sheet, first)
	if e != api.OK {
		return nil, e
	}
	return after(between, second)
}

// Three reports whether c comes out the same turned against a and then b, as turned against b and then a.
func Three(a, b, c api.Change) (bool, api.Errno) {
	if !areChanges(a, b, c) {
		return false, api.ErrArg
	}
	one := turned(turned(c, a), turned(b, a))
	other := turned(turned(c, b), turned(a, b))
	return one == other, api.OK
}
