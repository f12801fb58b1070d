package word_test

import (
	"math"
	"math/rand"
	"slices"
	"strings"
	"testing"

	"fairhand/api"
	"fairhand/word"
)

const names = "abcdefghijklmnopqrstuvwxyzABCDEFGHIJKLMNOPQRSTUVWXYZ0123456789_"

// of a text: its characters.
func of(s string) []int {
	var l []int
	for _, c := range s {
		l = append(l, int(c))
	}
	return l
}

// kindOf looks the characters below 128 up in lists of them.
func kindOf(c int, big bool) int {
	if c == 9 || c == 32 {
		return 0
	}
	if big || c > 127 || c >= 0 && strings.IndexByte(names, byte(c)) >= 0 {
		return 1
	}
	return 2
}

type run struct{ from, last int }

// wordsOf tries every run, as the document says what a word is.
func wordsOf(l []int, big bool) []run {
	one := func(from, last int) bool {
		if from < 0 || last >= len(l) || kindOf(l[from], big) == 0 {
			return false
		}
		for _, c := range l[from : last+1] {
			if kindOf(c, big) != kindOf(l[from], big) {
				return false
			}
		}
		return true
	}
	var all []run
	for from := range l {
		for last := from; last < len(l); last++ {
			if one(from, last) && !one(from-1, last) && !one(from, last+1) {
				all = append(all, run{from, last})
			}
		}
	}
	return all
}

func nextOf(l []int, words []run, k int) int {
	for _, w := range words {
		if w.from > k {
			return w.from
		}
	}
	return len(l)
}

func backOf(words []run, k int) int {
	last := 0
	for _, w := range words {
		if w.from < k {
			last = w.from
		}
	}
	return last
}

func endOf(l []int, words []run, k int) int {
	for _, w := range words {
		if w.last > k {
			return w.last
		}
	}
	if len(l) == 0 {
		return 0
	}
	return len(l) - 1
}

type call func([]int, int, bool) (int, api.Errno)

func checkAnswer(t *testing.T, name string, ask call, l []int, k int, big bool, want int) {
	t.Helper()
	if at, err := ask(l, k, big); at != want || err != api.OK {
		t.Fatalf("%s(%v, %d, %v): %d %v, not %d", name, l, k, big, at, err, want)
	}
}

func checkLine(t *testing.T, l []int) {
	t.Helper()
	for _, big := range []bool{false, true} {
		words := wordsOf(l, big)
		for k := 0; k <= len(l); k++ {
			checkAnswer(t, "Next", word.Next, l, k, big, nextOf(l, words, k))
			checkAnswer(t, "Back", word.Back, l, k, big, backOf(words, k))
			checkAnswer(t, "End", word.End, l, k, big, endOf(l, words, k))
		}
	}
}

func checkError(t *testing.T, l []int, k int, want api.Errno) {
	t.Helper()
	for name, ask := range map[string]call{"Next": word.Next, "Back": word.Back, "End": word.End} {
		for _, big := range []bool{false, true} {
			if at, err := ask(l, k, big); at != 0 || err != want {
				t.Errorf("%s of %d, %d, %v: %d %v", name, len(l), k, big, at, err)
			}
		}
	}
}

func TestKind(t *testing.T) {
	for _, test := range []struct{ c, small, big int }{
		{' ', api.Blank, api.Blank},
		{'\t', api.Blank, api.Blank},
		{'\t' - 1, api.Sign, api.Word},
		{'\n', api.Sign, api.Word},
		{'\r', api.Sign, api.Word},
		{' ' - 1, api.Sign, api.Word},
		{' ' + 1, api.Sign, api.Word},
		{'a', api.Word, api.Word},
		{'z', api.Word, api.Word},
		{'a' - 1, api.Sign, api.Word},
		{'z' + 1, api.Sign, api.Word},
		{'A', api.Word, api.Word},
		{'Z', api.Word, api.Word},
		{'A' - 1, api.Sign, api.Word},
		{'Z' + 1, api.Sign, api.Word},
		{'0', api.Word, api.Word},
		{'9', api.Word, api.Word},
		{'0' - 1, api.Sign, api.Word},
		{'9' + 1, api.Sign, api.Word},
		{'_', api.Word, api.Word},
		{'_' - 1, api.Sign, api.Word},
		{'-', api.Sign, api.Word},
		{0, api.Sign, api.Word},
		{api.Escape, api.Sign, api.Word},
		{127, api.Sign, api.Word},
		{128, api.Word, api.Word},
		{0xa0, api.Word, api.Word},
		{0xe4, api.Word, api.Word},
		{0x3000, api.Word, api.Word},
		{api.Bad, api.Word, api.Word},
		{0x10ffff, api.Word, api.Word},
		{0x110000, api.Word, api.Word},
		{-1, api.Sign, api.Word},
		{-128, api.Sign, api.Word},
		// Numbers that only some of their bits make blanks, letters or signs.
		{32 + 1<<8, api.Word, api.Word},
		{32 + 1<<32, api.Word, api.Word},
		{'-' + 1<<32, api.Word, api.Word},
		{32 - 1<<32, api.Sign, api.Word},
		{'a' - 1<<32, api.Sign, api.Word},
		{math.MaxInt, api.Word, api.Word},
		{math.MinInt, api.Sign, api.Word},
	} {
		if small, big := word.Kind(test.c, false), word.Kind(test.c, true); small != test.small || big != test.big {
			t.Errorf("%d: %d %d", test.c, small, big)
		}
	}
}

func TestKindOfAllCharacters(t *testing.T) {
	for c := -1000; c <= 0x110000; c++ {
		for _, big := range []bool{false, true} {
			if got := word.Kind(c, big); got != kindOf(c, big) {
				t.Fatalf("%d, %v: %d", c, big, got)
			}
		}
	}
}

type place struct {
	s    string
	k    int
	big  bool
	want int
}

func checkPlaces(t *testing.T, name string, ask call, tests []place) {
	t.Helper()
	for _, test := range tests {
		if at, err := ask(of(test.s), test.k, test.big); at != test.want || err != api.OK {
			t.Errorf("%s(%q, %d, %v): %d %v", name, test.s, test.k, test.big, at, err)
		}
	}
}

func TestNext(t *testing.T) {
	checkPlaces(t, "Next", word.Next, []place{
		{"ab c", 0, false, 3},
		{"ab c", 1, false, 3},
		{"ab c", 2, false, 3},
		// A word that begins at the place itself is not behind it.
		{"ab c", 3, false, 4},
		{"ab c", 4, false, 4},
		{" a", 0, false, 1},
		{"ab-c", 0, false, 2},
		{"ab-c", 2, false, 3},
		{"ab-c", 0, true, 4},
		{"ab-c d", 0, true, 5},
		{"a\t\t-", 0, false, 3},
		{"a  ", 0, false, 3},
		{"a  ", 1, false, 3},
		{"   ", 0, false, 3},
		{"ä-ö", 0, false, 1},
		{"ä-ö", 1, false, 2},
		{"aä_9Z-", 0, false, 5},
		{"a\nb", 0, false, 1},
		{"a\nb", 0, true, 3},
		{"", 0, false, 0},
		{"", 0, true, 0},
	})
}

func TestBack(t *testing.T) {
	checkPlaces(t, "Back", word.Back, []place{
		{"ab c", 4, false, 3},
		// A word that begins at the place itself is not ahead of it.
		{"ab c", 3, false, 0},
		{"ab c", 2, false, 0},
		{"ab c", 1, false, 0},
		{"ab c", 0, false, 0},
		{" ab", 3, false, 1},
		{" ab", 2, false, 1},
		{" ab", 1, false, 0},
		{"ab-c", 4, false, 3},
		{"ab-c", 3, false, 2},
		{"ab-c", 2, false, 0},
		{"ab-c", 4, true, 0},
		{"d ab-c", 6, true, 2},
		{"-\t\ta\t", 5, false, 3},
		{"   ", 3, false, 0},
		{"-ä", 2, false, 1},
		{"", 0, false, 0},
		{"", 0, true, 0},
	})
}

func TestEnd(t *testing.T) {
	checkPlaces(t, "End", word.End, []place{
		{"ab c", 0, false, 1},
		// A word that ends at the place itself is not behind it.
		{"ab c", 1, false, 3},
		{"ab c", 2, false, 3},
		{"ab c", 3, false, 3},
		{"ab c", 4, false, 3},
		{"abc", 0, false, 2},
		{"ab-c", 0, false, 1},
		{"ab-c", 1, false, 2},
		{"ab-c", 2, false, 3},
		{"ab-c", 0, true, 3},
		{"ab-c d", 0, true, 3},
		{"ab  ", 0, false, 1},
		// Behind the last word the line's last place, whatever stands there.
		{"ab  ", 1, false, 3},
		{"ab  ", 4, false, 3},
		{"   ", 0, false, 2},
		{" ", 0, false, 0},
		{" ", 1, false, 0},
		{"a", 0, false, 0},
		{"a", 1, false, 0},
		{"-ä", 0, false, 1},
		{"", 0, false, 0},
		{"", 0, true, 0},
	})
}

func TestAllShortLines(t *testing.T) {
	signs := []int{' ', '\t', 'a', '9', '-', 128}
	var grow func(l []int)
	grow = func(l []int) {
		checkLine(t, l)
		if len(l) == 6 {
			return
		}
		for _, c := range signs {
			grow(append(slices.Clone(l), c))
		}
	}
	grow(nil)
}

func TestLongerLines(t *testing.T) {
	r := rand.New(rand.NewSource(6))
	kinds := [][]int{of(" \t"), of(names + "äß"), of("!-/:@[`{~\n\x00\x7f")}
	for range 200 {
		var l []int
		for n := r.Intn(80); len(l) < n; {
			kind := kinds[r.Intn(len(kinds))]
			for range 1 + r.Intn(5) {
				l = append(l, kind[r.Intn(len(kind))])
			}
		}
		checkLine(t, l)
	}
}

func TestAnyNumberIsOne(t *testing.T) {
	const most, least = math.MaxInt, math.MinInt
	checkLine(t, []int{most, least, -1, 32, 0, most, 9, 0x110000, least, 32 + 1<<32, ' ', 32 - 1<<32, -32, 1 << 40, 9})
}

func TestPlacesThatAreNone(t *testing.T) {
	for _, s := range []string{"", " ", "a", "ab-c  d"} {
		l := of(s)
		for _, k := range []int{math.MinInt, -2, -1, len(l) + 1, len(l) + 2, api.MaxText, api.MaxText + 1, math.MaxInt} {
			checkError(t, l, k, api.ErrArg)
		}
	}
}

func TestRoomForSoManyNumbers(t *testing.T) {
	const n = api.MaxText
	full := make([]int, n)
	checkAnswer(t, "Next", word.Next, full, 0, false, n)
	checkAnswer(t, "Next", word.Next, full, n, false, n)
	checkAnswer(t, "Back", word.Back, full, n, false, 0)
	checkAnswer(t, "End", word.End, full, 0, false, n-1)
	checkAnswer(t, "End", word.End, full, n, false, n-1)
	full[n-1] = 'a'
	checkAnswer(t, "Next", word.Next, full, 0, false, n-1)
	checkAnswer(t, "Back", word.Back, full, n, false, n-1)
	checkAnswer(t, "Back", word.Back, full, n-1, false, 0)
	checkAnswer(t, "End", word.End, full, 0, false, n-2)
	checkError(t, full, n+1, api.ErrArg)
	checkError(t, full, -1, api.ErrArg)
}

// A line that is too long is told ahead of a place that is none.
func TestTooManyNumbers(t *testing.T) {
	for _, n := range []int{api.MaxText + 1, 9000} {
		for _, k := range []int{math.MinInt, -1, 0, 1, api.MaxText, n, n + 1, math.MaxInt} {
			checkError(t, make([]int, n), k, api.ErrLarge)
		}
	}
}

func TestWhatIsHandedInStaysAsItWas(t *testing.T) {
	all := of("xx ab-c  d xx")
	want := slices.Clone(all)
	for from := range all {
		for to := from; to <= len(all); to++ {
			checkLine(t, all[from:to])
			checkError(t, all[from:to], to-from+1, api.ErrArg)
		}
	}
	if !slices.Equal(all, want) {
		t.Errorf("%v", all)
	}
}

// What is changed in a line behind a call is seen by the next call.
func TestNothingIsKeptFromCallToCall(t *testing.T) {
	l := of("ab cd")
	for range 2 {
		checkLine(t, l)
		l[2] = 'x'
		checkAnswer(t, "Next", word.Next, l, 0, false, 5)
		checkAnswer(t, "Back", word.Back, l, 5, false, 0)
		checkAnswer(t, "End", word.End, l, 0, false, 4)
		checkError(t, make([]int, 5000), 0, api.ErrLarge)
		l[2] = ' '
		checkAnswer(t, "Next", word.Next, l, 0, false, 3)
		checkAnswer(t, "Back", word.Back, l, 5, false, 3)
		checkAnswer(t, "End", word.End, l, 0, false, 1)
	}
}
