package plot

import (
	"strconv"

	"dibber/api"
	"dibber/note"
)

// sheet returns what a writer sees, or refuses the command if there is no such writer.
func (s *Society) sheet(writer int) []api.Cell {
	sheet, e := s.board.Sheet(writer)
	must(e)
	return sheet
}

// typeWord puts the letters in on a copy of the board, as a letter in the midst of the word may be refused.
func (s *Society) typeWord(p []param) string {
	writer := p[0].number
	changes, e := note.Type(s.sheet(writer), p[1].number, p[2].word, writer)
	must(e)
	board := s.board.Copy()
	for _, c := range changes {
		must(board.Put(writer, c.At, c.Letter))
	}
	s.board = board
	return done
}

func (s *Society) wipe(p []param) string {
	writer := p[0].number
	sheet := s.sheet(writer)
	place, e := note.Find(sheet, p[1].number)
	must(e)
	ensure(place < len(sheet), api.ErrRange)
	must(s.board.Hide(writer, place))
	return done
}

// settle lets a copy of the board settle, as only that shows whether anything is left then.
func (s *Society) settle([]param) string {
	board := s.board.Copy()
	steps := board.Settle()
	for writer := range api.MaxWriters {
		waiting, left, e := board.Waiting(writer)
		must(e)
		ensure(waiting == 0 && left == 0, api.ErrState)
	}
	s.board = board
	return strconv.Itoa(steps)
}

func (s *Society) tellNote(p []param) string {
	text, e := note.Read(s.sheet(p[0].number))
	must(e)
	if text == "" {
		return nothing
	}
	return text
}
