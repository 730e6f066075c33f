package note

import (
	"slices"

	"dibber/api"
)

// Desk is where writers change a note, each on a sheet of their own, and send each other their changes by a list.
type Desk struct {
	sent    []api.Change
	writers []writer
}

// writer is what a writer has. The changes that wait were made, each one after those before it, of the sheet that the
// first ones of the list make; had is how many of the list these are, which the writer took or sent.
type writer struct {
	sheet   []api.Cell
	waiting []api.Change
	had     int
}

// New returns a desk of some writers, all with empty sheets.
func New(writers int) (*Desk, api.Errno) {
	if !isFrom(1, writers, api.MaxWriters) {
		return nil, api.ErrArg
	}
	return &Desk{writers: make([]writer, writers)}, api.OK
}

func (d *Desk) isNone() bool {
	return d == nil || len(d.writers) == 0
}

func (d *Desk) who(number int) (*writer, api.Errno) {
	if d.isNone() {
		return nil, api.ErrNil
	}
	if !isFrom(0, number, len(d.writers)-1) {
		return nil, api.ErrArg
	}
	return &d.writers[number], api.OK
}

// left returns how many changes are left to be taken by a writer.
func (d *Desk) left(w *writer) int {
	return len(d.sent) - w.had
}

// Put puts a letter in a writer's own sheet.
func (d *Desk) Put(writer, at int, letter byte) api.Errno {
	return d.change(writer, api.Change{Kind: put, At: at, Letter: letter, Writer: writer})
}

// Hide hides a cell of a writer's own sheet.
func (d *Desk) Hide(writer, at int) api.Errno {
	return d.change(writer, api.Change{Kind: hide, At: at})
}

func (d *Desk) change(number int, c api.Change) api.Errno {
	w, e := d.who(number)
	if e != api.OK {
		return e
	}
	if !fits(c, len(w.sheet)) {
		return api.ErrArg
	}
	sheet, e := after(w.sheet, c)
	if e != api.OK {
		return e
	}
	if len(w.waiting) == api.MaxChanges {
		return api.ErrFull
	}
	w.sheet = sheet
	w.waiting = append(w.waiting, c)
	return api.OK
}

// Send sends the first change of a writer that waits, and returns how many wait then.
func (d *Desk) Send(writer int) (int, api.Errno) {
	w, e := d.who(writer)
	if e != api.OK {
		return 0, e
	}
	if len(w.waiting) == 0 {
		return 0, api.ErrNone
	}
	if d.left(w) > 0 {
		return 0, api.ErrState
	}
	if len(d.sent) == api.MaxSent {
		return 0, api.ErrFull
	}
	d.sent = append(d.sent, w.waiting[0])
	w.waiting = w.waiting[1:]
	w.had++
	return len(w.waiting), api.OK
}

// Take does the next change of others on a writer's sheet, and returns how many are left.
func (d *Desk) Take(writer int) (int, api.Errno) {
	w, e := d.who(writer)
	if e != api.OK {
		return 0, e
	}
	if d.left(w) == 0 {
		return 0, api.ErrNone
	}
	c, waiting := across(d.sent[w.had], w.waiting)
	sheet, e := after(w.sheet, c)
	if e != api.OK {
		return 0, e
	}
	w.sheet, w.waiting = sheet, waiting
	w.had++
	return d.left(w), api.OK
}

// Sheet returns a writer's sheet.
func (d *Desk) Sheet(writer int) ([]api.Cell, api.Errno) {
	w, e := d.who(writer)
	if e != api.OK {
		return nil, e
	}
	return copied(w.sheet), api.OK
}

// Waiting returns how many changes of a writer wait, and how many are left to be taken by them.
func (d *Desk) Waiting(writer int) (int, int, api.Errno) {
	w, e := d.who(writer)
	if e != api.OK {
		return 0, 0, e
	}
	return len(w.waiting), d.left(w), api.OK
}

// Settle lets all writers take and send as long as any of them can, and returns how many were taken and sent.
func (d *Desk) Settle() int {
	if d.isNone() {
		return 0
	}
	all := 0
	for {
		now := d.settleOnce()
		if now == 0 {
			return all
		}
		all += now
	}
}

func (d *Desk) settleOnce() int {
	count := 0
	for number := range d.writers {
		count += repeat(d.Take, number)
		count += repeat(d.Send, number)
	}
	return count
}

// repeat takes a step for a writer as often as it can be taken, and returns how often that was.
func repeat(step func(int) (int, api.Errno), number int) int {
	for count := 0; ; count++ {
		if _, e := step(number); e != api.OK {
			return count
		}
	}
}

// Copy returns a desk of its own.
func (d *Desk) Copy() *Desk {
	if d.isNone() {
		return nil
	}
	out := &Desk{sent: slices.Clone(d.sent)}
	for _, w := range d.writers {
		out.writers = append(out.writers, writer{copied(w.sheet), slices.Clone(w.waiting), w.had})
	}
	return out
}
