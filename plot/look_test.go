package plot_test

import (
	"fmt"
	"strings"
	"testing"

	"dibber/api"
	"dibber/plot"
	"dibber/seed"
	"dibber/vine"
	"dibber/weed"
)

// replyOf is the reply with a result, or with an error.
func replyOf(result any, e api.Errno) string {
	if e != api.OK {
		return fmt.Sprint("! ", int(e))
	}
	return fmt.Sprint(result)
}

func TestGrow(t *testing.T) {
	s := plot.New()
	wantReplies(t, s, exchange{"grow 90 00100 1", "01010"}, exchange{"grow 90 00100 0", "00100"}, exchange{"grow 256 x 9999", "! 2"}, exchange{"grow -1 0 1", "! 2"}, exchange{"grow 90 0x 9999", "! 5"}, exchange{"grow 90 - 1", "! 5"}, exchange{"grow 90 01 1001", "! 3"}, exchange{"grow 90 01 -1", "! 3"})
	for _, rule := range []int{-1, 0, 30, 90, 110, 255, 256, 1 << 50} {
		for _, row := range []string{"0", "1", "00100", "0110101", "012", "a", strings.Repeat("01", 120)} {
			for _, years := range []int{-1, 0, 1, 7, 1000, 1001, -1 << 50} {
				wantReply(t, s, fmt.Sprint("grow ", rule, " ", row, " ", years), replyOf(weed.Ring(rule, row, years)))
			}
		}
	}
	if len(s.Book()) != 0 {
		t.Error(s.Book())
	}
}

func TestTake(t *testing.T) {
	s := plot.New()
	wantReplies(t, s, exchange{"take 11 10", "3"}, exchange{"take 11 2", "! 10"}, exchange{"take 0 5", "! 10"}, exchange{"take -1 0", "! 4"}, exchange{"take 5 0", "! 2"}, exchange{"take 0 0", "! 2"})
	for _, n := range []int{-1 << 50, -1, 0, 1, 4, 12, 13, 100, 1<<50 - 1, 1 << 50} {
		for _, most := range []int{-1 << 50, -1, 0, 1, 2, 5, 1000, 1 << 50} {
			wantReply(t, s, fmt.Sprint("take ", n, " ", most), replyOf(seed.Take(n, most)))
		}
	}
}

func TestVine(t *testing.T) {
	s := plot.New()
	wantReplies(t, s,
		exchange{"vine ab.a a 5", "13"}, exchange{"vine ab.a - 5", "0"}, exchange{"vine ab.a ba 0", "2"},
		exchange{"vine . - 1", "0"}, exchange{"vine . ab 0", "2"}, exchange{"vine . ab 1", "0"}, exchange{"vine .ab ab 1", "2"}, exchange{"vine ab. ab 3", "2"}, exchange{"vine aa.. abc 10", "1024"},
		exchange{"vine aa a 60", fmt.Sprint(1 << 60)}, exchange{"vine aa a 61", "! 4"}, exchange{"vine a.b.c.d.e.f abcdef 9", "6"}, exchange{"vine ..... abcdef 0", "6"},
		exchange{"vine a.b.c.d.e.f.g a 1", "! 5"}, exchange{"vine ...... - 0", "! 5"}, exchange{"vine ......x x 9999", "! 5"}, exchange{"vine " + strings.Repeat(".", 200) + " a 1", "! 5"},
		exchange{"vine ab a 1", "! 5"}, exchange{"vine - - 1", "! 5"}, exchange{"vine a -- 1", "! 5"}, exchange{"vine a a- 1", "! 5"}, exchange{"vine a b 9999", "! 5"}, exchange{"vine a a.a 1", "! 5"}, exchange{"vine aaaaaaaaa a 1", "! 5"},
		exchange{"vine a " + strings.Repeat("a", 31) + " 1", "! 5"}, exchange{"vine a " + strings.Repeat("a", 30) + " 1", "30"},
		exchange{"vine a a -1", "! 3"}, exchange{"vine a a 1001", "! 3"}, exchange{"vine a a 1000", "1"}, exchange{"vine a - 1001", "! 3"},
	)
	for _, parts := range [][]string{{"ab", "a"}, {"ab", "ba"}, {"", ""}, {"b", "c", ""}, {"abc", "", "c"}, {"abcdef", "b", "cc", "", "a", "f"}} {
		for _, shoot := range []string{"", "a", "b", "ab", "abcdef"} {
			for _, years := range []int{0, 1, 2, 5, 40, 100, 1000, 1001} {
				word := shoot
				if word == "" {
					word = "-"
				}
				wantReply(t, s, fmt.Sprint("vine ", strings.Join(parts, "."), " ", word, " ", years), replyOf(vine.Long(parts, shoot, years)))
			}
		}
	}
}

func TestAudit(t *testing.T) {
	s := after(t, "join ann", "join bob", "join cy", "join dan", "join eve", "lay", "lay", "lay", "lay", "let 4", "let 2", "bed 2 3", "bed 4 2", "next 2", "next 2", "next 4", "span 0 1 3 4", "span 1 2 3 4", "span 2 3 3 4", "type 0 0 hi", "leave bob", "leave dan")
	want := api.Audit{Commands: 22, Members: 3, Waiting: 2, Plots: 4, Let: 1, Rows: 3, Spans: 3, Good: true}
	if a := s.Audit(); a != want {
		t.Error(a)
	}
	wantNone(t, s, exchange{"audit", "good 22 3 2 4 1 3 3"}, exchange{"if audit", "good 22 3 2 4 1 3 3"})
}
