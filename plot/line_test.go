package plot_test

import (
	"fmt"
	"slices"
	"strings"
	"testing"

	"dibber/plot"
)

// sample is a line with a command, and the kinds of its parameters: n stands for a number, a for a name, w for any word.
type sample struct{ kinds, line string }

// samples are of all commands but if, by their names.
var samples = map[string]sample{
	"join":   {"a", "join zoe"},
	"leave":  {"a", "leave ann"},
	"lay":    {"", "lay"},
	"let":    {"n", "let 2"},
	"bed":    {"nn", "bed 3 3"},
	"sow":    {"nnnn", "sow 1 0 1 2"},
	"next":   {"n", "next 1"},
	"clear":  {"n", "clear 1"},
	"span":   {"nnnn", "span 0 1 3 4"},
	"type":   {"nnw", "type 0 0 hello"},
	"wipe":   {"nn", "wipe 0 0"},
	"settle": {"", "settle"},
	"queue":  {"", "queue"},
	"plan":   {"", "plan"},
	"refuse": {"nnnn", "refuse 0 1 3 4"},
	"finish": {"n", "finish 1"},
	"note":   {"n", "note 0"},
	"grow":   {"nwn", "grow 90 00100 1"},
	"take":   {"nn", "take 11 10"},
	"vine":   {"wwn", "vine ab.a a 5"},
	"audit":  {"", "audit"},
}

// busy is a society in which no sample is refused.
func busy(t *testing.T) *plot.Society {
	t.Helper()
	return after(t, "join ann", "join eve", "join bob", "lay", "lay", "lay", "let 1", "let 3", "bed 1 3", "type 0 0 oh")
}

func TestSamples(t *testing.T) {
	names := strings.Fields(first + " " + last)
	for _, command := range names {
		line := samples[command].line
		for _, text := range []string{line, "  " + strings.ReplaceAll(line, " ", "   ") + " "} {
			s := busy(t)
			before := s.Book()
			do(t, s, text)
			want := before
			if strings.Contains(first, command) {
				want = append(want, line)
			}
			if !slices.Equal(s.Book(), want) {
				t.Error(text, s.Book())
			}
		}
	}
	if len(samples) != len(names) {
		t.Error(len(samples), len(names))
	}
}

func TestLinesWithoutWords(t *testing.T) {
	s := busy(t)
	before := shown(s)
	for _, blanks := range []int{0, 1, 2, 299, 300, 301, 100000} {
		wantReply(t, s, strings.Repeat(" ", blanks), "")
	}
	if shown(s) != before {
		t.Error(shown(s))
	}
}

// Lines of up to 300 bytes are read, whatever they are made of.
func TestLineLimit(t *testing.T) {
	for length := 290; length <= 310; length++ {
		want := func(reply string) string {
			if length > 300 {
				return "? line"
			}
			return reply
		}
		for _, command := range []string{"lay", "if lay", "if if lay"} {
			pad := strings.Repeat(" ", length-len(command))
			for _, line := range []string{pad + command, command + pad, strings.Replace(command, "lay", pad+"lay", 1)} {
				wantReply(t, plot.New(), line, want("1"))
			}
		}
		s := plot.New()
		wantReply(t, s, "join "+strings.Repeat("a", length-5), want("? word 1"))
		wantReply(t, s, "type 0 0 "+strings.Repeat("a", length-9), want("ok"))
		wantReply(t, s, strings.Repeat("a", length), "? line")
		wantReply(t, s, strings.Repeat("if ", 50)+strings.Repeat(" ", length-153)+"lay", want("1"))
	}
	wantReply(t, plot.New(), strings.Repeat("if ", 99)+"lay", "1")
	wantReply(t, plot.New(), strings.Repeat("if ", 100)+"lay", "? line")
	wantReply(t, plot.New(), strings.Repeat("if ", 99)+"if", "? line")
}

func TestBytes(t *testing.T) {
	s := busy(t)
	for b := range 256 {
		letter := string([]byte{byte(b)})
		switch {
		case b < 32, b > 126:
			for _, line := range []string{letter, letter + "lay", "lay" + letter, "lay " + letter, letter + " lay", "join " + letter, "join ann" + letter, "type 0 0 " + letter, "if lay" + letter, "if " + letter, "  " + letter + "  "} {
				wantReply(t, s, line, "? line")
			}
		case b != ' ' && (b < 'a' || b > 'z'):
			wantReply(t, s, "type 0 0 a"+letter+"b", "! 5")
			wantReply(t, s, "join a"+letter, "? word 1")
			wantReply(t, s, letter, "? line")
		}
	}
	wantNone(t, s, exchange{"join é", "? line"}, exchange{"lay\n", "? line"}, exchange{"lay\r", "? line"}, exchange{"\tlay", "? line"}, exchange{"join\tzoe", "? line"}, exchange{"join zoe\x00", "? line"}, exchange{"join\u00a0zoe", "? line"}, exchange{"\u2003", "? line"}, exchange{"\x80", "? line"}, exchange{"lay \xff\xfe", "? line"})
}

func TestUnknownCommands(t *testing.T) {
	s := busy(t)
	for _, line := range []string{"fly", "Lay", "LAY", "la", "layx", "lay1", "-", "?", "!", "1", "ok", "help", "let1", "If lay", "read", "run", "book", "copy", "NAME", "..", "\"lay\"", "word", "if", "if if", "if 1", "fly 1 2 3", "if fly ann", "iff lay", "ann join", "1 let"} {
		wantNone(t, s, exchange{line, "? line"})
	}
	wantReply(t, s, "if ", "? line")
	wantReply(t, s, "  if  ", "? line")
}

// Each command is given all other numbers of parameters up to 12, of any kind.
func TestCounts(t *testing.T) {
	s := busy(t)
	for command, sample := range samples {
		for count := range 13 {
			if count == len(sample.kinds) || command == "sow" && count >= 2 && count <= 8 {
				continue
			}
			for _, filler := range []string{" 1", " a", " A"} {
				wantNone(t, s, exchange{command + strings.Repeat(filler, count), "? line"})
			}
		}
	}
}

func TestCountsOfSow(t *testing.T) {
	for count := 1; count <= 7; count++ {
		row := make([]int, count)
		for i := range row {
			row[i] = count - 1 - i
		}
		s := after(t, "join ann", "lay", "let 1", fmt.Sprint("bed 1 ", count))
		wantReply(t, s, sowing(1, row), "ok")
	}
}

// wrongWords are not of a kind.
var wrongWords = map[byte][]string{
	'n': {"a", "-", "x1", "1x", "01", "007", "00", "-0", "-00", "-01", "+1", "+0", "1.0", "1.", ".1", "1e3", "0x1", "1_0", "--1", "1-", "1,2", "1/2", "one", "1125899906842625", "-1125899906842625", "9223372036854775807", "-9223372036854775808", "9223372036854775808", "18446744073709551617", strings.Repeat("9", 40)},
	'a': {"Ann", "anN", "1", "a1", "1a", "-", "a-b", "abcdefghi", "abcdefghijkl", "a.b", "a_", "{", "`", "A", "Z", "~", "@"},
}

// Each parameter of each command is given words that are not of its kind, with and without more of them after it.
func TestKinds(t *testing.T) {
	s := busy(t)
	for command, sample := range samples {
		right := strings.Fields(sample.line)
		for i := range sample.kinds {
			for _, bad := range wrongWords[sample.kinds[i]] {
				one, more := slices.Clone(right), slices.Clone(right)
				for j := i; j < len(sample.kinds); j++ {
					more[j+1] = bad
				}
				one[i+1] = bad
				want := fmt.Sprint("? word ", i+1)
				wantReply(t, s, strings.Join(one, " "), want)
				wantReply(t, s, strings.Join(more, " "), want)
			}
		}
		wantNone(t, s, exchange{command + strings.Repeat(" ?", len(sample.kinds)+8), "? line"})
	}
	for i := 1; i <= 8; i++ {
		wantNone(t, s, exchange{"sow" + strings.Repeat(" 1", i-1) + strings.Repeat(" x", 9-i), fmt.Sprint("? word ", i)})
	}
	wantNone(t, s, exchange{"join Ann", "? word 1"}, exchange{"leave 7", "? word 1"}, exchange{"bed 1 x", "? word 2"}, exchange{"bed x x", "? word 1"}, exchange{"span 0 1 2 3.", "? word 4"}, exchange{"grow 90 x y", "? word 3"}, exchange{"vine ! ? x", "? word 3"})
}

func TestNumbers(t *testing.T) {
	s := plot.New()
	for _, n := range []string{"0", "1", "9", "10", "-1", "-10", "-9", "100", "1000000", "1125899906842624", "-1125899906842624", "1125899906842623", "-1125899906842623"} {
		wantNone(t, s, exchange{"let " + n, "! 6"}, exchange{"finish " + n, "! 6"})
	}
	do(t, s, "join ann", "lay", "let 1", "bed 1 1")
	wantNone(t, s, exchange{"sow 1 -1", "! 10"}, exchange{"sow 1 1125899906842624", "! 10"}, exchange{"sow 01 0", "? word 1"}, exchange{"sow -0 0", "? word 1"})
	wantReply(t, s, "sow 1 0", "ok")
}

func TestNames(t *testing.T) {
	s := plot.New()
	for i, n := range []string{"a", "z", "az", "abcdefgh", "zzzzzzzz", "join", "if", "lay", "ok"} {
		wantReply(t, s, "join "+n, fmt.Sprint(i+1))
	}
	wantReply(t, s, "queue", "a z az abcdefgh zzzzzzzz join if lay ok")
}
