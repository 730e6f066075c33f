package note_test

import (
	"math"
	"math/rand"
	"slices"
	"strings"
	"testing"

	"dibber/api"
	"dibber/note"
)

func desk(t *testing.T, writers int) *note.Desk {
	t.Helper()
	d, e := note.New(writers)
	if d == nil || e != api.OK {
		t.Fatal(writers, d, e)
	}
	return d
}

// write puts a text in at a place among all cells.
func write(t *testing.T, d *note.Desk, writer, at int, text string) {
	t.Helper()
	for i := range len(text) {
		if e := d.Put(writer, at+i, text[i]); e != api.OK {
			t.Fatal(writer, at, text, i, e)
		}
	}
}

func wantSheet(t *testing.T, d *note.Desk, writer int, want string) {
	t.Helper()
	if s, e := d.Sheet(writer); !slices.Equal(s, sheet(want)) || e != api.OK {
		t.Fatal(writer, s, e, want)
	}
}

func wantWaiting(t *testing.T, d *note.Desk, writer, waiting, left int) {
	t.Helper()
	if n, m, e := d.Waiting(writer); n != waiting || m != left || e != api.OK {
		t.Fatal(writer, n, m, e, waiting, left)
	}
}

func wantStep(t *testing.T, step func(int) (int, api.Errno), writer, want int, errno api.Errno) {
	t.Helper()
	if n, e := step(writer); n != want || e != errno {
		t.Fatal(writer, n, e, want, errno)
	}
}

func wantErrno(t *testing.T, e, want api.Errno) {
	t.Helper()
	if e != want {
		t.Fatal(e, want)
	}
}

func wantSettle(t *testing.T, d *note.Desk, want int) {
	t.Helper()
	if n := d.Settle(); n != want {
		t.Fatal(n, want)
	}
}

// wantErrors calls all methods of a desk that have a writer.
func wantErrors(t *testing.T, d *note.Desk, writer int, want api.Errno) {
	t.Helper()
	for _, at := range []int{0, -1, math.MaxInt} {
		wantErrno(t, d.Put(writer, at, 'a'), want)
		wantErrno(t, d.Put(writer, at, 'A'), want)
		wantErrno(t, d.Hide(writer, at), want)
	}
	wantStep(t, d.Send, writer, 0, want)
	wantStep(t, d.Take, writer, 0, want)
	if s, e := d.Sheet(writer); len(s) != 0 || e != want {
		t.Fatal(s, e, want)
	}
	if n, m, e := d.Waiting(writer); n != 0 || m != 0 || e != want {
		t.Fatal(n, m, e, want)
	}
}

func TestNew(t *testing.T) {
	for _, n := range []int{0, -1, 6, math.MinInt, math.MaxInt} {
		if d, e := note.New(n); d != nil || e != api.ErrArg {
			t.Error(n, d, e)
		}
	}
	for n := 1; n <= api.MaxWriters; n++ {
		d := desk(t, n)
		for w := range n {
			wantSheet(t, d, w, "")
			wantWaiting(t, d, w, 0, 0)
			wantStep(t, d.Take, w, 0, api.ErrNone)
			wantStep(t, d.Send, w, 0, api.ErrNone)
		}
		wantSettle(t, d, 0)
		for _, w := range []int{n, -1, n + 1, math.MinInt, math.MaxInt} {
			wantErrors(t, d, w, api.ErrArg)
		}
	}
}

func TestNoDesk(t *testing.T) {
	for _, d := range []*note.Desk{nil, {}, new(note.Desk)} {
		for _, w := range []int{0, -1, 5, math.MinInt, math.MaxInt} {
			wantErrors(t, d, w, api.ErrNil)
		}
		if n, c := d.Settle(), d.Copy(); n != 0 || c != nil {
			t.Error(n, c)
		}
	}
}

func TestPutAndHide(t *testing.T) {
	d := desk(t, 3)
	write(t, d, 1, 0, "ac")
	write(t, d, 1, 1, "b")
	wantErrno(t, d.Hide(1, 2), api.OK)
	write(t, d, 1, 3, "z")
	wantSheet(t, d, 1, "abCz")
	wantErrno(t, d.Hide(1, 2), api.OK)
	wantSheet(t, d, 1, "abCz")
	wantWaiting(t, d, 1, 6, 0)
	for _, w := range []int{0, 2} {
		wantSheet(t, d, w, "")
		wantWaiting(t, d, w, 0, 0)
	}
	for _, at := range []int{-1, 5, math.MinInt, math.MaxInt} {
		wantErrno(t, d.Put(1, at, 'a'), api.ErrArg)
		wantErrno(t, d.Hide(1, at), api.ErrArg)
	}
	wantErrno(t, d.Hide(1, 4), api.ErrArg)
	wantErrno(t, d.Hide(0, 0), api.ErrArg)
	for _, b := range wrongLetters() {
		wantErrno(t, d.Put(1, 0, b), api.ErrArg)
	}
	wantSheet(t, d, 1, "abCz")
	wantWaiting(t, d, 1, 6, 0)
	wantSettle(t, d, 18)
	for w := range 3 {
		wantSheet(t, d, w, "abCz")
	}
}

func TestSendAndTake(t *testing.T) {
	d := desk(t, 2)
	write(t, d, 0, 0, "cd")
	write(t, d, 1, 0, "ab")
	wantStep(t, d.Send, 1, 1, api.OK)
	wantWaiting(t, d, 0, 2, 1)
	wantWaiting(t, d, 1, 1, 0)
	wantStep(t, d.Take, 1, 0, api.ErrNone)
	wantStep(t, d.Send, 0, 0, api.ErrState)
	wantStep(t, d.Send, 1, 0, api.OK)
	wantStep(t, d.Send, 1, 0, api.ErrNone)
	wantSheet(t, d, 0, "cd")
	wantStep(t, d.Take, 0, 1, api.OK)
	wantSheet(t, d, 0, "cda")
	wantWaiting(t, d, 0, 2, 1)
	wantStep(t, d.Send, 0, 0, api.ErrState)
	// A change of what is between: it waits behind the others.
	wantErrno(t, d.Hide(0, 2), api.OK)
	wantStep(t, d.Take, 0, 0, api.OK)
	wantSheet(t, d, 0, "cdAb")
	wantStep(t, d.Take, 0, 0, api.ErrNone)
	for left := 2; left >= 0; left-- {
		wantStep(t, d.Send, 0, left, api.OK)
	}
	wantWaiting(t, d, 1, 0, 3)
	wantStep(t, d.Send, 1, 0, api.ErrNone)
	wantStep(t, d.Take, 1, 2, api.OK)
	wantSheet(t, d, 1, "cab")
	wantStep(t, d.Take, 1, 1, api.OK)
	wantSheet(t, d, 1, "cdab")
	wantStep(t, d.Take, 1, 0, api.OK)
	wantSheet(t, d, 1, "cdAb")
	wantSettle(t, d, 0)
	wantWaiting(t, d, 0, 0, 0)
}

// TestWaitingIsTurned has changes that wait while the sheet under them changes at both ends.
func TestWaitingIsTurned(t *testing.T) {
	d := desk(t, 3)
	write(t, d, 0, 0, "mn")
	wantSettle(t, d, 6)
	write(t, d, 2, 1, "x")
	wantErrno(t, d.Hide(2, 2), api.OK)
	write(t, d, 2, 3, "y")
	wantSheet(t, d, 2, "mxNy")
	write(t, d, 0, 0, "a")
	write(t, d, 1, 2, "z")
	wantStep(t, d.Send, 0, 0, api.OK)
	wantStep(t, d.Take, 1, 0, api.OK)
	wantStep(t, d.Send, 1, 0, api.OK)
	wantStep(t, d.Take, 2, 1, api.OK)
	wantSheet(t, d, 2, "amxNy")
	wantStep(t, d.Take, 2, 0, api.OK)
	wantSheet(t, d, 2, "amxNzy")
	for left := 2; left >= 0; left-- {
		wantStep(t, d.Send, 2, left, api.OK)
	}
	wantSettle(t, d, 7)
	for w := range 3 {
		wantSheet(t, d, w, "amxNzy")
	}
}

func TestSettle(t *testing.T) {
	d := desk(t, 5)
	write(t, d, 0, 0, "hello")
	write(t, d, 1, 0, "oh")
	wantErrno(t, d.Hide(0, 4), api.OK)
	wantSettle(t, d, 40)
	for w := range 5 {
		wantSheet(t, d, w, "hellOoh")
		wantWaiting(t, d, w, 0, 0)
	}
	wantSettle(t, d, 0)
	one := desk(t, 1)
	write(t, one, 0, 0, "abc")
	wantSettle(t, one, 3)
	wantSettle(t, one, 0)
	wantSheet(t, one, 0, "abc")
}

func TestManyWait(t *testing.T) {
	d := desk(t, 2)
	write(t, d, 0, 0, "a")
	for range api.MaxChanges - 1 {
		wantErrno(t, d.Hide(0, 0), api.OK)
	}
	wantWaiting(t, d, 0, 500, 0)
	wantErrno(t, d.Hide(0, 0), api.ErrFull)
	wantErrno(t, d.Put(0, 0, 'a'), api.ErrFull)
	wantErrno(t, d.Hide(0, 1), api.ErrArg)
	wantErrno(t, d.Put(0, 2, 'a'), api.ErrArg)
	wantSheet(t, d, 0, "A")
	wantWaiting(t, d, 0, 500, 0)
	wantErrno(t, d.Put(1, 0, 'a'), api.OK)
	wantStep(t, d.Send, 0, 499, api.OK)
	wantErrno(t, d.Put(0, 1, 'b'), api.OK)
	wantErrno(t, d.Put(0, 1, 'b'), api.ErrFull)
	wantSheet(t, d, 0, "Ab")
	wantSettle(t, d, 500+501+2)
	wantSheet(t, d, 0, "Aba")
	wantSheet(t, d, 1, "Aba")
}

func TestFullSheets(t *testing.T) {
	d := desk(t, 3)
	write(t, d, 0, 0, strings.Repeat("a", 300))
	wantErrno(t, d.Put(0, 0, 'a'), api.ErrFull)
	wantErrno(t, d.Put(0, 301, 'a'), api.ErrArg)
	wantErrno(t, d.Put(0, 0, 'A'), api.ErrArg)
	wantErrno(t, d.Hide(0, 299), api.OK)
	wantErrno(t, d.Hide(0, 0), api.OK)
	wantWaiting(t, d, 0, 302, 0)
	write(t, d, 1, 0, "bc")
	wantErrno(t, d.Hide(1, 1), api.OK)
	// The writer 1 can take all but two of 300 letters, and send nothing, not even what makes no sheet longer.
	wantSettle(t, d, 302+298+302)
	wantWaiting(t, d, 0, 0, 0)
	wantWaiting(t, d, 1, 3, 4)
	wantWaiting(t, d, 2, 0, 0)
	wantStep(t, d.Take, 1, 0, api.ErrFull)
	wantStep(t, d.Send, 1, 0, api.ErrState)
	wantWaiting(t, d, 1, 3, 4)
	want := strings.Repeat("a", 298) + "bC"
	wantSheet(t, d, 1, want)
	wantErrno(t, d.Put(1, 0, 'a'), api.ErrFull)
	wantErrno(t, d.Hide(1, 0), api.OK)
	wantSheet(t, d, 1, "A"+want[1:])
	wantSettle(t, d, 0)
	want = "A" + strings.Repeat("a", 298) + "A"
	wantSheet(t, d, 0, want)
	wantSheet(t, d, 2, want)
	// Those who are not stuck go on.
	wantErrno(t, d.Hide(2, 1), api.OK)
	wantSettle(t, d, 2)
	wantSheet(t, d, 0, "AA"+want[2:])
	wantWaiting(t, d, 1, 4, 5)
}

// TestTakeOfAFullSheet takes what does not make a sheet longer.
func TestTakeOfAFullSheet(t *testing.T) {
	d := desk(t, 2)
	write(t, d, 0, 0, strings.Repeat("a", 100))
	wantSettle(t, d, 200)
	write(t, d, 1, 0, strings.Repeat("b", 200))
	wantErrno(t, d.Hide(0, 0), api.OK)
	wantErrno(t, d.Put(0, 0, 'c'), api.OK)
	wantStep(t, d.Send, 0, 1, api.OK)
	wantStep(t, d.Send, 0, 0, api.OK)
	wantStep(t, d.Take, 1, 1, api.OK)
	want := strings.Repeat("b", 200) + "A" + strings.Repeat("a", 99)
	wantSheet(t, d, 1, want)
	wantStep(t, d.Take, 1, 0, api.ErrFull)
	wantSheet(t, d, 1, want)
	wantWaiting(t, d, 1, 200, 1)
}

func TestManySent(t *testing.T) {
	d := desk(t, 3)
	write(t, d, 0, 0, "a")
	wantSettle(t, d, 3)
	for range 4 {
		for range 499 {
			wantErrno(t, d.Hide(1, 0), api.OK)
		}
		wantSettle(t, d, 3*499)
	}
	for range 3 {
		wantErrno(t, d.Hide(0, 0), api.OK)
		wantErrno(t, d.Hide(1, 0), api.OK)
	}
	wantStep(t, d.Send, 0, 2, api.OK)
	wantStep(t, d.Send, 0, 1, api.OK)
	wantStep(t, d.Send, 1, 0, api.ErrState)
	// There are 1999 in the list now.
	wantStep(t, d.Take, 1, 1, api.OK)
	wantStep(t, d.Take, 1, 0, api.OK)
	wantStep(t, d.Send, 1, 2, api.OK)
	wantStep(t, d.Send, 1, 0, api.ErrFull)
	wantStep(t, d.Send, 0, 0, api.ErrState)
	wantStep(t, d.Send, 2, 0, api.ErrNone)
	wantSettle(t, d, 1+3)
	wantStep(t, d.Send, 0, 0, api.ErrFull)
	wantStep(t, d.Send, 1, 0, api.ErrFull)
	wantStep(t, d.Send, 2, 0, api.ErrNone)
	wantStep(t, d.Take, 1, 0, api.ErrNone)
	wantWaiting(t, d, 0, 1, 0)
	wantWaiting(t, d, 1, 2, 0)
	wantSettle(t, d, 0)
	wantErrno(t, d.Put(0, 0, 'b'), api.OK)
	wantSettle(t, d, 0)
	wantSheet(t, d, 0, "bA")
	wantSheet(t, d, 1, "A")
}

func TestSheetIsNewMemory(t *testing.T) {
	d := desk(t, 2)
	write(t, d, 0, 0, "abc")
	for range 2 {
		s, e := d.Sheet(0)
		if e != api.OK {
			t.Fatal(e)
		}
		for i := range s {
			s[i] = api.Cell{Letter: 'x', Hidden: true}
		}
		s = append(s, long(10)...)
		wantSheet(t, d, 0, "abc")
		d.Settle()
		wantSheet(t, d, 1, "abc")
	}
}

func TestCopy(t *testing.T) {
	d := desk(t, 3)
	write(t, d, 0, 0, "abc")
	write(t, d, 1, 0, "xyz")
	wantStep(t, d.Send, 0, 2, api.OK)
	wantStep(t, d.Take, 1, 0, api.OK)
	c := d.Copy()
	for w, want := range []string{"abc", "axyz", ""} {
		wantSheet(t, c, w, want)
	}
	wantWaiting(t, c, 0, 2, 0)
	wantWaiting(t, c, 1, 3, 0)
	wantWaiting(t, c, 2, 0, 1)
	wantErrors(t, c, 3, api.ErrArg)
	// Both go on from there, each in its own way.
	write(t, d, 0, 3, "d")
	wantErrno(t, c.Hide(0, 2), api.OK)
	wantErrno(t, c.Hide(1, 1), api.OK)
	wantStep(t, d.Send, 1, 2, api.OK)
	wantStep(t, c.Send, 0, 2, api.OK)
	wantSheet(t, d, 0, "abcd")
	wantSheet(t, c, 0, "abC")
	wantSheet(t, d, 1, "axyz")
	wantSheet(t, c, 1, "aXyz")
	wantWaiting(t, d, 2, 0, 2)
	wantWaiting(t, c, 2, 0, 2)
	wantSettle(t, d, 1+3+3+2+7+2)
	wantSettle(t, c, 2+3+4+8+4)
	for w := range 3 {
		wantSheet(t, d, w, "abcdxyz")
		wantSheet(t, c, w, "abCXyz")
	}
}

// TestCopiesGoApart copies desks with lists of many lengths, as what they share may show only where there is room behind it.
func TestCopiesGoApart(t *testing.T) {
	for sent := range 20 {
		for waiting := range 10 {
			d := desk(t, 2)
			text := strings.Repeat("a", sent)
			write(t, d, 0, 0, text)
			d.Settle()
			write(t, d, 0, sent, strings.Repeat("b", waiting))
			c := d.Copy()
			for _, x := range []struct {
				*note.Desk
				more string
			}{{d, "xx"}, {c, "yy"}} {
				write(t, x.Desk, 0, sent+waiting, x.more)
				for left := waiting + 1; left >= 0; left-- {
					wantStep(t, x.Send, 0, left, api.OK)
				}
			}
			text += strings.Repeat("b", waiting)
			wantSettle(t, d, waiting+2)
			wantSettle(t, c, waiting+2)
			wantSheet(t, d, 1, text+"xx")
			wantSheet(t, c, 1, text+"yy")
		}
	}
}

// someDesk does so many things at random at a desk and at a model, and compares all that can be seen.
func someDesk(t *testing.T, rng *rand.Rand, writers, steps int) (*note.Desk, *model) {
	t.Helper()
	d, m := desk(t, writers), newModel(writers)
	for range steps {
		w := rng.Intn(writers+2) - 1
		cells := 0
		if m.isWriter(w) {
			cells = len(m.writers[w].sheet)
		}
		at := rng.Intn(cells+3) - 1
		switch rng.Intn(9) {
		case 0, 1, 2:
			c := put(at, byte('a'+rng.Intn(26)), w)
			wantErrno(t, d.Put(w, at, c.Letter), m.change(w, c))
		case 3, 4:
			wantErrno(t, d.Hide(w, at), m.change(w, hide(at)))
		case 5, 6:
			n, e := m.send(w)
			wantStep(t, d.Send, w, n, e)
		default:
			n, e := m.take(w)
			wantStep(t, d.Take, w, n, e)
		}
		wantSame(t, d, m)
	}
	return d, m
}

func wantSame(t *testing.T, d *note.Desk, m *model) {
	t.Helper()
	for w, want := range m.writers {
		wantWaiting(t, d, w, len(want.waiting), len(m.left(w)))
		if s, e := d.Sheet(w); !slices.Equal(s, want.sheet) || e != api.OK {
			t.Fatal(w, s, e, want)
		}
	}
}

func TestDeskByModel(t *testing.T) {
	rng := rand.New(rand.NewSource(76))
	for round := range 400 {
		d, m := someDesk(t, rng, 1+round%api.MaxWriters, 10+round/4)
		c, k := d.Copy(), m.copy()
		wantSame(t, c, k)
		// The same again: it depends on nothing else.
		n := m.settle()
		wantSettle(t, d, n)
		wantSame(t, d, m)
		wantSame(t, c, k)
		wantSettle(t, c, n)
		wantSame(t, c, m)
		m.allAgree(t)
	}
}

// allAgree is the theorem of desks, and that a sheet is what the list makes of an empty one.
func (m *model) allAgree(t *testing.T) {
	t.Helper()
	want := after(t, nil, m.sent...)
	for w, who := range m.writers {
		if len(who.waiting) != 0 || len(m.left(w)) != 0 || !slices.Equal(who.sheet, want) {
			t.Fatal(w, who, want)
		}
	}
}

// letters are those of a text, in the order of the alphabet.
func letters(text string) string {
	list := []byte(text)
	slices.Sort(list)
	return string(list)
}

func readAll(t *testing.T, d *note.Desk, writers int) string {
	t.Helper()
	var first []api.Cell
	for w := range writers {
		s, e := d.Sheet(w)
		if e != api.OK {
			t.Fatal(w, e)
		}
		if w == 0 {
			first = s
		}
		if !slices.Equal(s, first) {
			t.Fatal(w, s, first)
		}
	}
	text, e := note.Read(first)
	if e != api.OK {
		t.Fatal(first, e)
	}
	return text
}

// TestTheoremOfDesks puts in each letter of the alphabet at most once, so that it can be told which ones are hidden.
func TestTheoremOfDesks(t *testing.T) {
	rng := rand.New(rand.NewSource(77))
	for round := range 600 {
		writers := 1 + round%api.MaxWriters
		d := desk(t, writers)
		next, hidden := byte('a'), map[byte]bool{}
		for next <= 'z' {
			w := rng.Intn(writers)
			s, _ := d.Sheet(w)
			switch at := rng.Intn(len(s) + 1); rng.Intn(5) {
			case 0:
				wantErrno(t, d.Put(w, at, next), api.OK)
				next++
			case 1:
				if at < len(s) {
					wantErrno(t, d.Hide(w, at), api.OK)
					hidden[s[at].Letter] = true
				}
			case 2:
				d.Send(w)
			default:
				d.Take(w)
			}
		}
		d.Settle()
		want := ""
		for b := byte('a'); b <= 'z'; b++ {
			if !hidden[b] {
				want += string(rune(b))
			}
		}
		if text := readAll(t, d, writers); letters(text) != want {
			t.Fatal(text, want)
		}
	}
}

// TestOwnWords has five words without a letter in common, of which nothing is hidden but the letters of a sixth one.
func TestOwnWords(t *testing.T) {
	rng := rand.New(rand.NewSource(78))
	words := []string{"abcde", "jihgf", "klmno", "tsrqp", "uvwxy"}
	for range 600 {
		d := desk(t, len(words))
		write(t, d, 0, 0, "zzzz")
		d.Settle()
		for _, writer := range rng.Perm(len(words)) {
			s, _ := d.Sheet(writer)
			text, _ := note.Read(s)
			changes, e := note.Type(s, rng.Intn(len(text)+1), words[writer], writer)
			if e != api.OK {
				t.Fatal(s, e)
			}
			for _, c := range changes {
				wantErrno(t, d.Put(writer, c.At, c.Letter), api.OK)
			}
			s, _ = d.Sheet(writer)
			if at := rng.Intn(len(s)); s[at].Letter == 'z' {
				wantErrno(t, d.Hide(writer, at), api.OK)
			}
			for range rng.Intn(12) {
				d.Take(rng.Intn(len(words)))
				d.Send(rng.Intn(len(words)))
			}
		}
		d.Settle()
		text := readAll(t, d, len(words))
		for _, word := range words {
			own := strings.Map(func(r rune) rune {
				if strings.ContainsRune(word, r) {
					return r
				}
				return -1
			}, text)
			if own != word {
				t.Fatal(text, word)
			}
		}
	}
}

// TestAnyInts has arguments of all sizes, of which none may lead to a panic.
func TestAnyInts(t *testing.T) {
	ints := []int{math.MinInt, math.MinInt + 1, -1, 0, 1, 2, 3, 300, 301, math.MaxInt - 1, math.MaxInt}
	var changes []api.Change
	for _, kind := range ints {
		for _, at := range ints {
			for _, writer := range ints {
				for _, b := range []byte{0, 'a', 255} {
					changes = append(changes, api.Change{Kind: kind, At: at, Letter: b, Writer: writer})
				}
			}
		}
	}
	fine := []api.Change{{}, put(1, 'b', 2), hide(0)}
	for _, c := range changes {
		_, e := note.Apply(sheet("ab"), c)
		for _, other := range fine {
			ok, f := note.Cross(sheet("ab"), c, other)
			if f != e || ok != (e == api.OK) {
				t.Fatal(c, other, ok, e, f)
			}
			x, f := note.Turn(c, other)
			y, g := note.Past(c, []api.Change{other})
			a, b, h := note.Both([]api.Change{c}, []api.Change{other})
			if x != y || f != g || f != h || len(a) != len(b) || len(a) == 1 != (f == api.OK) {
				t.Fatal(c, other, x, y, a, b, f, g, h)
			}
			ok, g = note.Three(other, c, other)
			if g != f || ok != (f == api.OK) {
				t.Fatal(c, other, ok, f, g)
			}
		}
	}
}
