package seed_test

import (
	"math/big"
	"math/rand"
	"reflect"
	"strings"
	"testing"

	"dibber/api"
	"dibber/seed"
)

func TestExamplesOfTheChapter(t *testing.T) {
	if got, e := seed.Write(11); got != "10100" || e != api.OK {
		t.Error(got, e)
	}
	if got, e := seed.Sums(11); got != 3 || e != api.OK {
		t.Error(got, e)
	}
	if got, e := seed.Circle(3, 4); got != 29 || e != api.OK {
		t.Error(got, e)
	}
	for k, want := range [][2]int{{0, 0}, {1, 2}, {3, 5}} {
		if a, b, e := seed.Pair(k); a != want[0] || b != want[1] || e != api.OK {
			t.Error(k, a, b, e)
		}
	}
	if x, y, e := seed.Move(2, 2); x != 0 || y != 1 || e != api.OK {
		t.Error(x, y, e)
	}
	if got, e := seed.Take(11, 10); got != 3 || e != api.OK {
		t.Error(got, e)
	}
	for column, want := range []int{4, 7} {
		if got, e := seed.Array(1, column); got != want || e != api.OK {
			t.Error(column, got, e)
		}
	}
	if row, column, e := seed.Where(7); row != 1 || column != 1 || e != api.OK {
		t.Error(row, column, e)
	}
}

func checkWord(t *testing.T, n int, want string) {
	t.Helper()
	if got, e := seed.Write(n); got != want || e != api.OK {
		t.Fatal(n, got, e, want)
	}
	if got, e := seed.Read(want); got != n || e != api.OK {
		t.Fatal(want, got, e, n)
	}
	if got, e := seed.Tidy(want); got != want || e != api.OK {
		t.Fatal(want, got, e)
	}
	last := int(want[len(want)-1] - '0')
	if got, e := seed.Letter(n); got != last || e != api.OK {
		t.Fatal(n, got, e, want)
	}
}

func TestWordsInTheirOrder(t *testing.T) {
	for n, word := range firstWords(10000) {
		checkWord(t, n, word)
	}
}

func TestLargeWords(t *testing.T) {
	before := ""
	for _, n := range large() {
		want := word(n)
		checkWord(t, n, want)
		if strings.Contains(want, "11") || moved(ones(want), 0).Cmp(big.NewInt(int64(n))) != 0 {
			t.Fatal(n, want)
		}
		if len(want) < len(before) || len(want) == len(before) && want <= before { // P9.8
			t.Fatal(n, before, want)
		}
		before = want
	}
	if len(before) != 87 {
		t.Error(before)
	}
}

func TestReadOfWhatIsNoWord(t *testing.T) {
	words := map[string]int{}
	for n, word := range firstWords(20) {
		words[word] = n
	}
	const letters = "01\x002x\xff"
	strings := []string{""}
	for range 5 {
		for _, text := range strings {
			n, is := words[text]
			want := api.ErrForm
			if is {
				want = api.OK
			}
			if got, e := seed.Read(text); got != n || e != want {
				t.Fatalf("%q: %d %d", text, got, e)
			}
		}
		var next []string
		for _, text := range strings {
			for at := range len(letters) {
				next = append(next, text+letters[at:at+1])
			}
		}
		strings = next
	}
	for _, text := range []string{" 1", "1 ", "+1", "-1", "1_0", "1\n", "１", "1０", "1\u0660", "1é", "10\xc3", "1/", "1:"} {
		if got, e := seed.Read(text); got != 0 || e != api.ErrForm {
			t.Errorf("%q: %d %d", text, got, e)
		}
	}
}

func TestReadAboveTheRange(t *testing.T) {
	limit := big.NewInt(most)
	checkWord(t, most, wordOf(limit))
	words := []string{}
	for more := range 200 {
		words = append(words, wordOf(new(big.Int).Add(limit, big.NewInt(int64(more+1)))))
	}
	for i := 89; i < 200; i++ {
		words = append(words, wordOf(fib(i)), wordOf(new(big.Int).Sub(fib(i+1), big.NewInt(1))), wordOf(new(big.Int).Add(fib(i), limit)))
	}
	zeros := strings.Repeat("0", 100000)
	words = append(words, "1"+zeros, "1"+zeros+"1", strings.Repeat("10", 50000), strings.Repeat("01", 50000)[1:])
	for _, word := range words {
		if got, e := seed.Read(word); got != 0 || e != api.ErrRange {
			t.Error(len(word), got, e)
		}
		for _, wrong := range []string{"0" + word, "1" + word, word + "2", word + "011", word + "é"} { // ErrForm comes first
			if got, e := seed.Read(wrong); got != 0 || e != api.ErrForm {
				t.Error(len(wrong), got, e)
			}
		}
	}
	if got, e := seed.Read("0" + zeros); got != 0 || e != api.ErrForm {
		t.Error(got, e)
	}
}

// tidied is what Tidy should return of digits.
func tidied(digits string) (string, api.Errno) {
	sum := new(big.Int)
	for at := range len(digits) {
		times := big.NewInt(int64(digits[at] - '0'))
		sum.Add(sum, times.Mul(times, fib(len(digits)-at+1)))
	}
	if !inRange(sum) {
		return "", api.ErrRange
	}
	return wordOf(sum), api.OK
}

func compareTidy(t *testing.T, digits string) api.Errno {
	t.Helper()
	want, e := tidied(digits)
	if got, f := seed.Tidy(digits); got != want || f != e {
		t.Fatal(digits, got, f, want, e)
	}
	return e
}

func randomDigits(r *rand.Rand, length int, high int) string {
	out := make([]byte, length)
	for i := range out {
		out[i] = byte('0' + r.Intn(high+1))
	}
	return string(out)
}

func TestTidy(t *testing.T) {
	for n := range 1000 {
		digits := string([]byte{byte('0' + n/100), byte('0' + n/10%10), byte('0' + n%10)})
		for from := range digits {
			compareTidy(t, digits[from:])
		}
	}
	r := rand.New(rand.NewSource(91))
	count := map[api.Errno]int{}
	for range 3000 {
		length := 1 + r.Intn(api.MaxDigits)
		count[compareTidy(t, randomDigits(r, length, 1+r.Intn(9)))]++
		zeros := r.Intn(length + 1)
		count[compareTidy(t, strings.Repeat("0", zeros)+randomDigits(r, length-zeros, 9))]++
		count[compareTidy(t, randomDigits(r, 80+r.Intn(6), 1))]++
	}
	if count[api.OK] < 1000 || count[api.ErrRange] < 300 {
		t.Error(count)
	}
}

func TestTidyAtTheLimits(t *testing.T) {
	limit := word(most)
	zeros := strings.Repeat("0", api.MaxDigits-len(limit))
	next := limit[:len(limit)-1] + string(limit[len(limit)-1]+1)
	for _, digits := range []string{limit, zeros + limit, next, zeros + next} {
		compareTidy(t, digits)
	}
	if got, e := seed.Tidy(zeros + strings.Replace(limit, "100", "011", 1)); got != limit || e != api.OK {
		t.Error(got, e)
	}
	if got, e := seed.Tidy(zeros + next); got != "" || e != api.ErrRange {
		t.Error(got, e)
	}
	if got, e := seed.Tidy(strings.Repeat("0", api.MaxDigits)); got != "0" || e != api.OK {
		t.Error(got, e)
	}
	for length := 1; length <= api.MaxDigits; length++ {
		for digit := '0'; digit <= '9'; digit++ {
			compareTidy(t, strings.Repeat(string(digit), length))
			compareTidy(t, string(digit)+strings.Repeat("0", length-1))
		}
	}
}

func TestTidyOfWrongDigits(t *testing.T) {
	check := func(digits string, want api.Errno) {
		t.Helper()
		if got, e := seed.Tidy(digits); got != "" || e != want {
			t.Errorf("%q: %s %d %d", digits, got, e, want)
		}
	}
	check("", api.ErrForm)
	for b := range 256 {
		if b >= '0' && b <= '9' {
			continue
		}
		wrong := string([]byte{byte(b)})
		nines := strings.Repeat("9", api.MaxDigits-1)
		for _, digits := range []string{wrong, "1" + wrong, wrong + "1", "1" + wrong + "1", nines + wrong, wrong + nines} {
			check(digits, api.ErrForm)
		}
		check(nines+"9"+wrong, api.ErrLimit)
		check(strings.Repeat(wrong, api.MaxDigits+1), api.ErrLimit)
	}
	check(strings.Repeat("0", api.MaxDigits+1), api.ErrLimit)
	check(strings.Repeat("9", api.MaxDigits+1), api.ErrLimit)
	check(strings.Repeat("0", 1<<20), api.ErrLimit)
	check(strings.Repeat("é", api.MaxDigits/2), api.ErrForm)
	check(strings.Repeat("é", api.MaxDigits/2+1), api.ErrLimit) // bytes are counted
	check("１", api.ErrForm)
	check("1\u0661", api.ErrForm)
}

// TestLetters is P9.13 of letters: 0 becomes 01, and 1 becomes 0, from one year to the next.
func TestLetters(t *testing.T) {
	letters := "0"
	grow := strings.NewReplacer("0", "01", "1", "0")
	for len(letters) < 20000 {
		letters = grow.Replace(letters)
	}
	count, k := 0, 3
	for i := range letters {
		if i == small(k) {
			if count != small(k-2) {
				t.Error(k, count)
			}
			k++
		}
		got, e := seed.Letter(i)
		if got != int(letters[i]-'0') || e != api.OK {
			t.Fatal(i, got, e)
		}
		count += got
	}
	if k < 20 {
		t.Error(k)
	}
}

// TestNumbersOutOfRange is also of ErrRange before ErrArg.
func TestNumbersOutOfRange(t *testing.T) {
	check := func(n int, results []any, zeros ...any) {
		t.Helper()
		if !reflect.DeepEqual(results, append(zeros, api.ErrRange)) {
			t.Error(n, results)
		}
	}
	for _, n := range outside() {
		check(n, two(seed.Write(n)), "")
		check(n, two(seed.Sums(n)), 0)
		check(n, two(seed.Letter(n)), 0)
		check(n, three(seed.Pair(n)), 0, 0)
		check(n, three(seed.Where(n)), 0, 0)
		for _, other := range append(outside(), 0, 1, 2, 80, 81, most) {
			check(n, two(seed.Circle(n, other)), 0)
			check(n, two(seed.Circle(other, n)), 0)
			check(n, two(seed.Shift(n, other)), 0)
			check(n, two(seed.Lost(n, other)), false)
			check(n, two(seed.Lost(other, n)), false)
			check(n, three(seed.Move(n, other)), 0, 0)
			check(n, three(seed.Move(other, n)), 0, 0)
			check(n, two(seed.Take(n, other)), 0)
			check(n, two(seed.Array(n, other)), 0)
			check(n, two(seed.Array(other, n)), 0)
		}
	}
}

// TestSameEachTime is P2.
func TestSameEachTime(t *testing.T) {
	r := rand.New(rand.NewSource(92))
	var first [][]any
	type call struct {
		a, b int
		text string
	}
	var calls []call
	for range 200 {
		c := call{anyNumber(r), anyNumber(r), randomDigits(r, r.Intn(110), 1)}
		calls = append(calls, c)
		first = append(first, everything(c.a, c.b, c.text))
	}
	for _, i := range r.Perm(len(calls)) {
		if again := everything(calls[i].a, calls[i].b, calls[i].text); !reflect.DeepEqual(again, first[i]) {
			t.Fatal(calls[i], first[i], again)
		}
	}
}
