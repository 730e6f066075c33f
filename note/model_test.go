package note_test

import (
	"slices"

	"dibber/api"
	"dibber/note"
)

// model does by Apply and Both what a desk should do.
type model struct {
	sent    []api.Change
	by      []int
	writers []modelWriter
}

type modelWriter struct {
	sheet   []api.Cell
	waiting []api.Change
	had     int
}

func newModel(writers int) *model {
	return &model{writers: make([]modelWriter, writers)}
}

func (m *model) copy() *model {
	out := &model{slices.Clone(m.sent), slices.Clone(m.by), slices.Clone(m.writers)}
	for i, w := range m.writers {
		out.writers[i].waiting = slices.Clone(w.waiting)
	}
	return out
}

func (m *model) isWriter(writer int) bool {
	return writer >= 0 && writer < len(m.writers)
}

func (m *model) change(writer int, c api.Change) api.Errno {
	if !m.isWriter(writer) {
		return api.ErrArg
	}
	w := &m.writers[writer]
	s, e := note.Apply(w.sheet, c)
	if e != api.OK {
		return e
	}
	if len(w.waiting) >= 500 {
		return api.ErrFull
	}
	w.sheet, w.waiting = s, append(w.waiting, c)
	return api.OK
}

// left are the indices in the list of what a writer has not had, and was not sent by them.
func (m *model) left(writer int) []int {
	var out []int
	for i := m.writers[writer].had; i < len(m.sent); i++ {
		if m.by[i] != writer {
			out = append(out, i)
		}
	}
	return out
}

func (m *model) take(writer int) (int, api.Errno) {
	if !m.isWriter(writer) {
		return 0, api.ErrArg
	}
	w, left := &m.writers[writer], m.left(writer)
	if len(left) == 0 {
		return 0, api.ErrNone
	}
	late, waiting, e := note.Both(m.sent[left[0]:left[0]+1], w.waiting)
	if e != api.OK {
		panic("the list has a change that is not valid")
	}
	s, e := note.Apply(w.sheet, late[0])
	if e != api.OK {
		return 0, e
	}
	w.sheet, w.waiting, w.had = s, waiting, left[0]+1
	return len(left) - 1, api.OK
}

func (m *model) send(writer int) (int, api.Errno) {
	if !m.isWriter(writer) {
		return 0, api.ErrArg
	}
	w := &m.writers[writer]
	switch {
	case len(w.waiting) == 0:
		return 0, api.ErrNone
	case len(m.left(writer)) > 0:
		return 0, api.ErrState
	case len(m.sent) >= 2000:
		return 0, api.ErrFull
	}
	m.sent, m.by = append(m.sent, w.waiting[0]), append(m.by, writer)
	w.waiting = slices.Clone(w.waiting[1:])
	return len(w.waiting), api.OK
}

func (m *model) settle() int {
	all := 0
	for {
		before := all
		for writer := range m.writers {
			for _, step := range []func(int) (int, api.Errno){m.take, m.send} {
				for {
					if _, e := step(writer); e != api.OK {
						break
					}
					all++
				}
			}
		}
		if all == before {
			return all
		}
	}
}
