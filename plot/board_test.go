package plot_test

import (
	"fmt"
	"math/rand"
	"slices"
	"strings"
	"testing"

	"dibber/plot"
)

func TestType(t *testing.T) {
	s := plot.New()
	wantReplies(t, s, exchange{"type 0 0 held", "ok"}, exchange{"note 0", "held"}, exchange{"type 0 2 l", "ok"}, exchange{"type 0 5 up", "ok"}, exchange{"type 0 0 a", "ok"}, exchange{"note 0", "ahelldup"}, exchange{"note 1", "-"}, exchange{"type 4 0 x", "ok"}, exchange{"note 4", "x"}, exchange{"note 0", "ahelldup"})
	if s.Note() != "ahelldup" {
		t.Error(s.Note())
	}
	wantNone(t, s, exchange{"type 5 0 a", "! 2"}, exchange{"type -1 0 a", "! 2"}, exchange{"type 1125899906842624 99 A", "! 2"}, exchange{"type 5 99 A", "! 2"},
		exchange{"type 0 9 a", "! 4"}, exchange{"type 0 -1 a", "! 4"}, exchange{"type 0 9 A", "! 4"}, exchange{"type 1 1 a", "! 4"}, exchange{"type 0 1125899906842624 a", "! 4"},
		exchange{"type 0 0 A", "! 5"}, exchange{"type 0 8 a-b", "! 5"}, exchange{"type 0 0 ab1", "! 5"}, exchange{"type 0 0 -", "! 5"})
}

// What is typed stands before the letter with that number of those that can be read, wherever letters are hidden.
func TestTypeAmongHidden(t *testing.T) {
	s := after(t, "type 0 0 abcdef", "wipe 0 1", "wipe 0 2", "wipe 0 0")
	wantReplies(t, s, exchange{"note 0", "cef"}, exchange{"type 0 1 x", "ok"}, exchange{"note 0", "cxef"}, exchange{"type 0 0 y", "ok"}, exchange{"type 0 5 z", "ok"}, exchange{"note 0", "ycxefz"})
	wantNone(t, s, exchange{"type 0 7 a", "! 4"})
	do(t, s, "wipe 0 0", "wipe 0 0", "wipe 0 0", "wipe 0 0", "wipe 0 0", "wipe 0 0")
	wantReplies(t, s, exchange{"note 0", "-"}, exchange{"wipe 0 0", "! 4"}, exchange{"type 0 1 a", "! 4"}, exchange{"type 0 0 a", "ok"}, exchange{"note 0", "a"})
}

func TestWipe(t *testing.T) {
	s := after(t, "type 2 0 garden")
	wantReplies(t, s, exchange{"wipe 2 5", "ok"}, exchange{"note 2", "garde"}, exchange{"wipe 2 0", "ok"}, exchange{"note 2", "arde"}, exchange{"wipe 2 1", "ok"}, exchange{"note 2", "ade"}, exchange{"wipe 2 1", "ok"}, exchange{"note 2", "ae"})
	wantNone(t, s, exchange{"wipe 5 0", "! 2"}, exchange{"wipe -1 0", "! 2"}, exchange{"wipe 5 99", "! 2"}, exchange{"wipe -1125899906842624 -1", "! 2"},
		exchange{"wipe 2 2", "! 4"}, exchange{"wipe 2 3", "! 4"}, exchange{"wipe 2 6", "! 4"}, exchange{"wipe 2 -1", "! 4"}, exchange{"wipe 2 1125899906842624", "! 4"}, exchange{"wipe 0 0", "! 4"})
}

func TestNote(t *testing.T) {
	s := after(t, "type 1 0 beans")
	for writer, want := range []string{"-", "beans", "-", "-", "-", "! 2", "! 2"} {
		wantNone(t, s, exchange{fmt.Sprint("note ", writer), want})
	}
	wantNone(t, s, exchange{"note -1", "! 2"}, exchange{"note 1125899906842624", "! 2"})
	if s.Note() != "" {
		t.Error(s.Note())
	}
	wantReply(t, s, "settle", "25")
	if s.Note() != "beans" {
		t.Error(s.Note())
	}
}

func TestSettle(t *testing.T) {
	s := after(t, "type 0 0 hello", "type 1 0 oh", "wipe 0 4")
	wantReplies(t, s, exchange{"if settle", "40"}, exchange{"note 2", "-"}, exchange{"settle", "40"}, exchange{"settle", "0"})
	for writer := range 5 {
		wantReply(t, s, fmt.Sprint("note ", writer), "helloh")
	}
	if got := s.Book(); len(got) != 5 || got[3] != "settle" || got[4] != "settle" {
		t.Error(got)
	}
}

// A sheet has at most 300 cells, hidden ones too.
func TestFullSheet(t *testing.T) {
	s := after(t, "type 3 0 "+strings.Repeat("a", 291), "type 3 100 "+strings.Repeat("b", 7))
	wantNone(t, s, exchange{"type 3 0 abc", "! 8"}, exchange{"type 3 0 abC", "! 5"}, exchange{"type 3 299 abc", "! 4"})
	do(t, s, "type 3 0 ab", "wipe 3 0", "wipe 3 0")
	wantNone(t, s, exchange{"type 3 0 a", "! 8"}, exchange{"type 3 0 A", "! 5"})
	do(t, s, "type 2 0 a")
	wantNone(t, s, exchange{"settle", "! 9"})
}

// At most 500 changes of a writer wait; where a letter in the midst of a word is one too many, nothing of it is put in.
func TestManyChanges(t *testing.T) {
	s := after(t, "type 0 0 "+strings.Repeat("a", 291), "type 0 0 bbbbbbb")
	for range 201 {
		do(t, s, "wipe 0 7")
	}
	want := "bbbbbbb" + strings.Repeat("a", 90)
	wantNone(t, s, exchange{"note 0", want}, exchange{"type 0 0 xy", "! 8"}, exchange{"note 0", want}, exchange{"if type 0 0 x", "ok"}, exchange{"if wipe 0 0", "ok"})
	do(t, s, "wipe 0 0")
	wantNone(t, s, exchange{"type 0 0 x", "! 8"}, exchange{"wipe 0 0", "! 8"}, exchange{"wipe 0 96", "! 4"}, exchange{"type 0 0 X", "! 5"}, exchange{"note 0", want[1:]})
	wantReplies(t, s, exchange{"settle", "2500"}, exchange{"wipe 0 0", "ok"}, exchange{"type 1 0 x", "ok"}, exchange{"note 1", "x" + want[1:]})
}

// Two writers whose letters together do not fit a sheet can't settle, and nothing is sent then.
func TestSettleRefused(t *testing.T) {
	s := after(t, "type 0 0 "+strings.Repeat("a", 151), "type 1 0 "+strings.Repeat("b", 149), "settle")
	wantReply(t, s, "note 4", strings.Repeat("a", 151)+strings.Repeat("b", 149))
	for one := range 5 {
		for two := range one {
			s := after(t, fmt.Sprint("type ", one, " 0 ", strings.Repeat("a", 151)), fmt.Sprint("type ", two, " 0 ", strings.Repeat("b", 150)))
			wantNone(t, s, exchange{"settle", "! 9"}, exchange{fmt.Sprint("note ", two), strings.Repeat("b", 150)})
			do(t, s, fmt.Sprint("type ", one, " 0 c"))
			wantNone(t, s, exchange{"settle", "! 9"})
		}
	}
}

// spread reports whether the letters of a word are in a text, in their order.
func spread(word, text string) bool {
	for i := range len(text) {
		if word != "" && text[i] == word[0] {
			word = word[1:]
		}
	}
	return word == ""
}

// After settle all read the same, with each letter that was typed and wiped by nobody just once, and words in their order.
func TestBoard(t *testing.T) {
	rng := rand.New(rand.NewSource(3))
	for range 40 {
		s := plot.New()
		var words []string
		letters := ""
		for range 1 + rng.Intn(4) {
			for range rng.Intn(8) {
				writer := rng.Intn(5)
				seen := strings.Trim(s.Exec(fmt.Sprint("note ", writer)), "-")
				word := strings.Repeat(string(rune('a'+rng.Intn(26))), 1+rng.Intn(3)) + string(rune('a'+rng.Intn(26)))
				do(t, s, fmt.Sprint("type ", writer, " ", rng.Intn(len(seen)+1), " ", word))
				words, letters = append(words, word), letters+word
			}
			do(t, s, "settle")
			wantReply(t, s, "settle", "0")
			for writer := range 5 {
				if text := s.Exec(fmt.Sprint("note ", writer)); strings.Trim(text, "-") != s.Note() {
					t.Fatal(writer, text, s.Note())
				}
			}
			if sorted(letters) != sorted(s.Note()) {
				t.Fatal(letters, s.Note())
			}
			for _, word := range words {
				if !spread(word, s.Note()) {
					t.Fatal(word, s.Note())
				}
			}
		}
	}
}

func sorted(text string) string {
	letters := []byte(text)
	slices.Sort(letters)
	return string(letters)
}

// What two writers wipe is gone once, and what others typed at the same time stays.
func TestWipedByTwo(t *testing.T) {
	s := after(t, "type 0 0 abc", "settle", "wipe 1 1", "wipe 2 1", "type 3 2 xy", "type 4 1 z", "settle")
	for writer := range 5 {
		wantReply(t, s, fmt.Sprint("note ", writer), "azxyc")
	}
}
