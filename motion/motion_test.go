package motion_test

import (
	"math"
	"math/rand"
	"slices"
	"strings"
	"testing"

	"fairhand/api"
	"fairhand/motion"
)

const keys = "hl0^bB$|wWeE%ftFT"

// of a text: its characters.
func of(s string) []int {
	var l []int
	for _, c := range s {
		l = append(l, int(c))
	}
	return l
}

// kindOf tells blanks, signs of a name and others apart.
func kindOf(c int, big bool) int {
	switch {
	case c == 9 || c == 32:
		return 0
	case big || c > 127 || c == '_' || c >= 'a' && c <= 'z' || c >= 'A' && c <= 'Z' || c >= '0' && c <= '9':
		return 1
	}
	return 2
}

// edgesOf tells all places at which words begin, and at which they end, rising.
func edgesOf(l []int, big bool) (begin, end []int) {
	for at := 0; at < len(l); {
		to := at
		for to < len(l) && kindOf(l[to], big) == kindOf(l[at], big) {
			to++
		}
		if kindOf(l[at], big) != 0 {
			begin, end = append(begin, at), append(end, to-1)
		}
		at = to
	}
	return begin, end
}

// behind k, and ahead of it: those of places, the nearest one first.
func behind(places []int, k int) []int {
	return slices.DeleteFunc(slices.Clone(places), func(at int) bool { return at <= k })
}

func ahead(places []int, k int) []int {
	l := slices.DeleteFunc(slices.Clone(places), func(at int) bool { return at >= k })
	slices.Reverse(l)
	return l
}

// nth of places, counted from 1 on, or what is told for none.
func nth(places []int, n, none int) int {
	if n <= len(places) {
		return places[n-1]
	}
	return none
}

func placesOf(l []int, c int) []int {
	var places []int
	for at := range l {
		if l[at] == c {
			places = append(places, at)
		}
	}
	return places
}

// partnerOf counts how deep it is, of one kind of bracket, till it is out again.
func partnerOf(l []int, at int) int {
	for _, kind := range []string{"()", "[]", "{}"} {
		step := 0
		if l[at] == int(kind[0]) {
			step = 1
		} else if l[at] == int(kind[1]) {
			step = -1
		}
		deep := 0
		for to := at; step != 0 && to >= 0 && to < len(l); to += step {
			if l[to] == int(kind[0]) {
				deep++
			} else if l[to] == int(kind[1]) {
				deep--
			}
			if deep == 0 {
				return to
			}
		}
	}
	return -1
}

type answer struct {
	at   int
	with bool
	err  api.Errno
}

var fail = answer{err: api.ErrFail}

// failsIf makes an answer that is a fault in that case.
func failsIf(wrong bool, at int, with bool) answer {
	if wrong {
		return fail
	}
	return answer{at, with, api.OK}
}

// wantOf says again, in lists of places, what the document says of each key. It
// is asked only where Check lets it pass.
func wantOf(l []int, k int, m api.Move, op bool) answer {
	n, last := m.Count, len(l)-1
	if n == 0 {
		n = 1
	}
	empty := len(l) == 0
	begin, end := edgesOf(l, m.Key == 'B' || m.Key == 'W' || m.Key == 'E')
	switch m.Key {
	case 'h':
		return failsIf(k == 0, max(0, k-n), false)
	case 'l':
		if op {
			return failsIf(empty || k >= len(l), min(len(l), k+n), false)
		}
		return failsIf(empty || k >= last, min(last, k+n), false)
	case '0':
		return answer{}
	case '^':
		return answer{at: nth(slices.DeleteFunc(allOf(l), func(at int) bool { return kindOf(l[at], true) == 0 }), 1, max(0, last))}
	case 'b', 'B':
		return failsIf(k == 0, nth(ahead(begin, k), n, 0), false)
	}
	if empty {
		return fail
	}
	switch m.Key {
	case '$':
		return answer{at: last, with: true}
	case '|':
		return answer{at: nth(allOf(l), n, last)}
	case 'w', 'W':
		if op {
			return answer{at: nth(behind(begin, k), n, len(l))}
		}
		return failsIf(k == last, nth(behind(begin, k), n, last), false)
	case 'e', 'E':
		return failsIf(k == last && !op, nth(behind(end, k), n, last), true)
	case '%':
		return wantOfPartner(l, k)
	}
	return wantOfFind(l, k, n, m)
}

func allOf(l []int) []int {
	var all []int
	for at := range l {
		all = append(all, at)
	}
	return all
}

func wantOfPartner(l []int, k int) answer {
	for at := k; at < len(l); at++ {
		if slices.Contains(of("()[]{}"), l[at]) {
			to := partnerOf(l, at)
			return failsIf(to < 0, to, true)
		}
	}
	return fail
}

func wantOfFind(l []int, k, n int, m api.Move) answer {
	right, left := behind(placesOf(l, m.Arg), k), ahead(placesOf(l, m.Arg), k)
	switch m.Key {
	case 'f':
		return failsIf(n > len(right), nth(right, n, 0), true)
	case 't':
		return failsIf(n > len(right), nth(right, n, 0)-1, true)
	case 'F':
		return failsIf(n > len(left), nth(left, n, 0), false)
	}
	return failsIf(n > len(left), nth(left, n, 0)+1, false)
}

// rangeOf goes through all places to tell which of them an operator is done to.
func rangeOf(l []int, k int, m api.Move) (int, int, api.Errno) {
	want := wantOf(l, k, m, true)
	if want.err != api.OK {
		return 0, 0, want.err
	}
	from, most := k, want.at
	if want.at < k {
		from, most = want.at, k
	}
	to := from
	for to < most || to == most && want.with {
		to++
	}
	return from, to, api.OK
}

func checkMove(t *testing.T, l []int, k int, m api.Move) {
	t.Helper()
	if err := motion.Check(l, k, m); err != api.OK {
		t.Fatalf("Check(%v, %d, %v): %v", l, k, m, err)
	}
	for _, op := range []bool{false, true} {
		want := wantOf(l, k, m, op)
		if at, with, err := motion.Go(l, k, m, op); (answer{at, with, err}) != want {
			t.Fatalf("Go(%v, %d, %v, %v): %d %v %v, not %v", l, k, m, op, at, with, err, want)
		}
	}
	wantFrom, wantTo, want := rangeOf(l, k, m)
	if from, to, err := motion.Range(l, k, m); from != wantFrom || to != wantTo || err != want {
		t.Fatalf("Range(%v, %d, %v): %d %d %v, not %d %d %v", l, k, m, from, to, err, wantFrom, wantTo, want)
	}
}

// checkLine tries all keys at all places of a line.
func checkLine(t *testing.T, l []int, counts, args []int) {
	t.Helper()
	for k := range max(1, len(l)) {
		for _, key := range of(keys) {
			for _, count := range counts {
				checkMove(t, l, k, api.Move{Key: key, Count: count})
				if !slices.Contains(of("ftFT"), key) {
					continue
				}
				for _, arg := range args {
					checkMove(t, l, k, api.Move{Key: key, Count: count, Arg: arg})
				}
			}
		}
	}
}

func checkError(t *testing.T, l []int, k int, m api.Move, want api.Errno) {
	t.Helper()
	if err := motion.Check(l, k, m); err != want {
		t.Errorf("Check of %d, %d, %v: %v, not %v", len(l), k, m, err, want)
	}
	for _, op := range []bool{false, true} {
		if at, with, err := motion.Go(l, k, m, op); at != 0 || with || err != want {
			t.Errorf("Go of %d, %d, %v, %v: %d %v %v, not %v", len(l), k, m, op, at, with, err, want)
		}
	}
	if from, to, err := motion.Range(l, k, m); from != 0 || to != 0 || err != want {
		t.Errorf("Range of %d, %d, %v: %d %d %v, not %v", len(l), k, m, from, to, err, want)
	}
}

// told is where a key leads to, without an operator and with one; -1 if it fails.
type told struct {
	s          string
	k          int
	count      int
	alone, pre int
}

// Whether the character there is taken with it.
const takesIt, leavesIt = true, false

func checkTold(t *testing.T, key, arg rune, with bool, tests []told) {
	t.Helper()
	for _, test := range tests {
		for i, place := range []int{test.alone, test.pre} {
			want := failsIf(place < 0, place, with)
			m := api.Move{Key: int(key), Count: test.count, Arg: int(arg)}
			if at, with, err := motion.Go(of(test.s), test.k, m, i == 1); (answer{at, with, err}) != want {
				t.Errorf("%c of %v, op %v: %d %v %v", key, test, i == 1, at, with, err)
			}
		}
	}
}

func TestLeftAndRight(t *testing.T) {
	checkTold(t, 'h', 0, leavesIt, []told{
		{"abcd", 3, 0, 2, 2},
		{"abcd", 3, 1, 2, 2},
		{"abcd", 3, 2, 1, 1},
		{"abcd", 3, 3, 0, 0},
		{"abcd", 3, 4, 0, 0},
		{"abcd", 1, 999, 0, 0},
		{"abcd", 0, 0, -1, -1},
		{"abcd", 0, 5, -1, -1},
		{"", 0, 0, -1, -1},
	})
	checkTold(t, 'l', 0, leavesIt, []told{
		{"abcd", 0, 0, 1, 1},
		{"abcd", 0, 1, 1, 1},
		{"abcd", 0, 3, 3, 3},
		// With an operator there is one place more to go to.
		{"abcd", 0, 4, 3, 4},
		{"abcd", 0, 5, 3, 4},
		{"abcd", 2, 999, 3, 4},
		{"abcd", 3, 0, -1, 4},
		{"abcd", 3, 7, -1, 4},
		{"a", 0, 0, -1, 1},
		{"", 0, 0, -1, -1},
		{"", 0, 3, -1, -1},
	})
}

func TestEndsOfTheLine(t *testing.T) {
	checkTold(t, '0', 0, leavesIt, []told{
		{" abc", 3, 0, 0, 0},
		{" abc", 0, 0, 0, 0},
		{" abc", 3, 7, 0, 0},
		{"", 0, 0, 0, 0},
	})
	checkTold(t, '^', 0, leavesIt, []told{
		{" \tab", 3, 0, 2, 2},
		{" \tab", 0, 0, 2, 2},
		{" \tab", 2, 9, 2, 2},
		{"-a", 1, 0, 0, 0},
		{"\na", 1, 0, 0, 0},
		{"   ", 0, 0, 2, 2},
		{"   ", 2, 0, 2, 2},
		{"", 0, 0, 0, 0},
	})
	checkTold(t, '$', 0, takesIt, []told{
		{"abc ", 0, 0, 3, 3},
		{"abc ", 3, 0, 3, 3},
		{"abc ", 0, 2, 3, 3},
		{"", 0, 0, -1, -1},
	})
	checkTold(t, '|', 0, leavesIt, []told{
		{"abcd", 2, 0, 0, 0},
		{"abcd", 2, 1, 0, 0},
		{"abcd", 2, 3, 2, 2},
		{"abcd", 2, 4, 3, 3},
		{"abcd", 2, 5, 3, 3},
		{"abcd", 3, 999, 3, 3},
		{"", 0, 0, -1, -1},
		{"", 0, 4, -1, -1},
	})
}

func TestWords(t *testing.T) {
	checkTold(t, 'b', 0, leavesIt, []told{
		{"ab c-d", 5, 0, 4, 4},
		{"ab c-d", 5, 2, 3, 3},
		{"ab c-d", 5, 3, 0, 0},
		{"ab c-d", 5, 99, 0, 0},
		{"  ab", 2, 0, 0, 0},
		{"ab", 0, 0, -1, -1},
		{"", 0, 0, -1, -1},
	})
	checkTold(t, 'B', 0, leavesIt, []told{
		{"ab c-d", 5, 0, 3, 3},
		{"ab c-d", 5, 2, 0, 0},
		{"ab", 0, 2, -1, -1},
		{"", 0, 0, -1, -1},
	})
	checkTold(t, 'w', 0, leavesIt, []told{
		{"ab c-d", 0, 0, 3, 3},
		{"ab c-d", 0, 3, 5, 5},
		// Behind the last word there is a place for operators only.
		{"ab c-d", 0, 4, 5, 6},
		{"ab c-d", 0, 999, 5, 6},
		{"ab c-d", 5, 0, -1, 6},
		{"ab cd", 3, 0, 4, 5},
		{"ab  ", 1, 0, 3, 4},
		{"a", 0, 0, -1, 1},
		{" ", 0, 2, -1, 1},
		{"", 0, 0, -1, -1},
	})
	checkTold(t, 'W', 0, leavesIt, []told{
		{"ab c-d", 0, 0, 3, 3},
		{"ab c-d", 0, 2, 5, 6},
		{"ab c-d", 5, 0, -1, 6},
		{"", 0, 0, -1, -1},
	})
	checkTold(t, 'e', 0, takesIt, []told{
		{"ab c-d", 0, 0, 1, 1},
		{"ab c-d", 0, 2, 3, 3},
		{"ab c-d", 0, 999, 5, 5},
		{"ab c-d", 5, 0, -1, 5},
		{"ab c-d", 5, 3, -1, 5},
		{"ab  ", 1, 0, 3, 3},
		{"a", 0, 0, -1, 0},
		{"", 0, 0, -1, -1},
	})
	checkTold(t, 'E', 0, takesIt, []told{
		{"ab c-d", 0, 0, 1, 1},
		{"ab c-d", 0, 2, 5, 5},
		{"ab c-d", 5, 0, -1, 5},
		{"", 0, 0, -1, -1},
	})
}

func TestPartners(t *testing.T) {
	checkTold(t, '%', 0, takesIt, []told{
		{"(a)", 0, 0, 2, 2},
		{"(a)", 2, 0, 0, 0},
		// The first one from the place on, not the one around it.
		{"(a)", 1, 0, 0, 0},
		{"x (a)", 0, 0, 4, 4},
		{"(a) [b]", 3, 0, 6, 6},
		{"(())", 1, 0, 2, 2},
		{"([)]", 0, 0, 2, 2},
		{"([)]", 1, 0, 3, 3},
		{"{a}", 0, 5, 2, 2},
		{"(a)b", 3, 0, -1, -1},
		{"ab", 0, 0, -1, -1},
		{"<a>", 0, 0, -1, -1},
		// The first one has none, whatever the others have.
		{"((a)", 0, 0, -1, -1},
		{")()", 0, 0, -1, -1},
		{"(]", 1, 0, -1, -1},
		{"", 0, 0, -1, -1},
	})
}

func TestFind(t *testing.T) {
	checkTold(t, 'f', 'x', takesIt, []told{
		{"xaxbx", 0, 0, 2, 2},
		{"xaxbx", 0, 1, 2, 2},
		{"xaxbx", 0, 2, 4, 4},
		{"xaxbx", 0, 3, -1, -1},
		{"xaxbx", 0, 999, -1, -1},
		{"xaxbx", 1, 0, 2, 2},
		// What stands at the place itself is not looked at.
		{"xaxbx", 4, 0, -1, -1},
		{"abc", 0, 0, -1, -1},
		{"", 0, 0, -1, -1},
	})
	checkTold(t, 't', 'x', takesIt, []told{
		{"xaxbx", 0, 0, 1, 1},
		{"xaxbx", 0, 2, 3, 3},
		// It stays where it is, and does not fail.
		{"xaxbx", 1, 0, 1, 1},
		{"xaxbx", 1, 2, 3, 3},
		{"xaxbx", 0, 3, -1, -1},
		{"xaxbx", 4, 0, -1, -1},
		{"", 0, 0, -1, -1},
	})
	checkTold(t, 'F', 'x', leavesIt, []told{
		{"xaxbx", 4, 0, 2, 2},
		{"xaxbx", 4, 2, 0, 0},
		{"xaxbx", 4, 3, -1, -1},
		{"xaxbx", 1, 0, 0, 0},
		{"xaxbx", 0, 0, -1, -1},
		{"", 0, 0, -1, -1},
	})
	checkTold(t, 'T', 'x', leavesIt, []told{
		{"xaxbx", 4, 0, 3, 3},
		{"xaxbx", 4, 2, 1, 1},
		{"xaxbx", 3, 0, 3, 3},
		{"xaxbx", 4, 3, -1, -1},
		{"xaxbx", 0, 0, -1, -1},
		{"", 0, 0, -1, -1},
	})
}

func TestRange(t *testing.T) {
	for _, test := range []struct {
		s        string
		k        int
		m        api.Move
		from, to int
		err      api.Errno
	}{
		{"abcd", 2, api.Move{Key: 'h'}, 1, 2, api.OK},
		{"abcd", 3, api.Move{Key: 'l'}, 3, 4, api.OK},
		{"abcd", 1, api.Move{Key: 'l', Count: 9}, 1, 4, api.OK},
		{"abcd", 3, api.Move{Key: '0'}, 0, 3, api.OK},
		{"abcd", 0, api.Move{Key: '0'}, 0, 0, api.OK},
		{"", 0, api.Move{Key: '0'}, 0, 0, api.OK},
		{"", 0, api.Move{Key: '^'}, 0, 0, api.OK},
		{"  cd", 0, api.Move{Key: '^'}, 0, 2, api.OK},
		{"  cd", 3, api.Move{Key: '^'}, 2, 3, api.OK},
		{"abcd", 1, api.Move{Key: '$'}, 1, 4, api.OK},
		{"abcd", 3, api.Move{Key: '$'}, 3, 4, api.OK},
		{"abcd", 1, api.Move{Key: '|', Count: 4}, 1, 3, api.OK},
		{"abcd", 2, api.Move{Key: '|'}, 0, 2, api.OK},
		{"ab cd", 0, api.Move{Key: 'w'}, 0, 3, api.OK},
		{"ab cd", 3, api.Move{Key: 'w'}, 3, 5, api.OK},
		{"ab cd", 3, api.Move{Key: 'b'}, 0, 3, api.OK},
		{"ab cd", 0, api.Move{Key: 'e'}, 0, 2, api.OK},
		{"ab cd", 4, api.Move{Key: 'e'}, 4, 5, api.OK},
		{"x(a)y", 1, api.Move{Key: '%'}, 1, 4, api.OK},
		{"x(a)y", 0, api.Move{Key: '%'}, 0, 4, api.OK},
		// To the left, too, the greater one is taken with it: here that is k.
		{"x(a)y", 3, api.Move{Key: '%'}, 1, 4, api.OK},
		{"x(a)y", 2, api.Move{Key: '%'}, 1, 3, api.OK},
		{"axbx", 0, api.Move{Key: 'f', Arg: 'x'}, 0, 2, api.OK},
		{"axbx", 0, api.Move{Key: 't', Arg: 'x'}, 0, 1, api.OK},
		{"axbx", 0, api.Move{Key: 't', Arg: 'x', Count: 2}, 0, 3, api.OK},
		{"axbx", 3, api.Move{Key: 'F', Arg: 'x'}, 1, 3, api.OK},
		{"axbx", 3, api.Move{Key: 'T', Arg: 'x'}, 2, 3, api.OK},
		{"axbx", 2, api.Move{Key: 'T', Arg: 'x'}, 2, 2, api.OK},
		{"abcd", 0, api.Move{Key: 'h'}, 0, 0, api.ErrFail},
		{"abcd", 2, api.Move{Key: 'f', Arg: 'x'}, 0, 0, api.ErrFail},
		{"abcd", 4, api.Move{Key: 'h'}, 0, 0, api.ErrArg},
		{"abcd", 2, api.Move{Key: 'q'}, 0, 0, api.ErrKey},
	} {
		if from, to, err := motion.Range(of(test.s), test.k, test.m); from != test.from || to != test.to || err != test.err {
			t.Errorf("%v: %d %d %v", test, from, to, err)
		}
	}
}

func TestAllShortLines(t *testing.T) {
	signs := of(" a-()[x")
	var grow func(l []int)
	grow = func(l []int) {
		checkLine(t, l, []int{0, 1, 2, 3, api.MaxCount}, of("ax"))
		if len(l) == 4 {
			return
		}
		for _, c := range signs {
			grow(append(slices.Clone(l), c))
		}
	}
	grow(nil)
}

func TestLongerLines(t *testing.T) {
	r := rand.New(rand.NewSource(7))
	signs := of("  \taabbc_9ä--+.()()[]{}")
	for range 60 {
		l := make([]int, r.Intn(60))
		for at := range l {
			l[at] = signs[r.Intn(len(signs))]
		}
		checkLine(t, l, []int{0, 1, 2, 5, 1 + r.Intn(60), api.MaxCount}, of("ab- ("))
	}
}

func TestAnyNumberIsOne(t *testing.T) {
	const most, least = math.MaxInt, math.MinInt
	l := []int{32 + 1<<32, most, least, -1, 32, '(' + 1<<32, '(', ')' - 1<<32, most, 9, least, ')', 0x110000, 0, 'a' + 1<<8, 32 - 1<<32}
	checkLine(t, l, []int{0, 1, 2, api.MaxCount}, []int{most, least, -1, 0, 'a', 'a' + 1<<8, 32, 32 - 1<<32, 0x110000})
}

// An Arg is asked for by four keys only; with the others it may be any number.
func TestArgOfOtherKeys(t *testing.T) {
	for _, key := range of(keys[:len(keys)-4]) {
		for _, arg := range []int{math.MinInt, -1, 'b', math.MaxInt} {
			checkMove(t, of("ab (b) b"), 2, api.Move{Key: key, Count: 2, Arg: arg})
		}
	}
}

func TestOtherKeys(t *testing.T) {
	others := []int{math.MinInt, math.MaxInt, 0x110000, api.Bad}
	for c := -300; c <= 300; c++ {
		if c < 0 || !strings.ContainsRune(keys, rune(c)) {
			others = append(others, c)
		}
	}
	// Numbers that only some of their bits tell from a key.
	for _, c := range of(keys) {
		others = append(others, -c, c+1<<8, c+1<<16, c+1<<32, c-1<<32, c+math.MinInt)
	}
	for _, s := range []string{"", "a", "ab (c) d"} {
		for _, c := range others {
			checkError(t, of(s), 0, api.Move{Key: c, Arg: 'a'}, api.ErrKey)
		}
	}
}

// A place or a Count that is none is told ahead of a key that is none.
func TestPlacesAndCountsThatAreNone(t *testing.T) {
	for _, s := range []string{"", "a", "ab (c) d"} {
		l := of(s)
		for _, key := range of(keys + "qx\x00") {
			for _, k := range []int{math.MinInt, -1, max(1, len(l)), len(l) + 1, api.MaxText, math.MaxInt} {
				checkError(t, l, k, api.Move{Key: key}, api.ErrArg)
				checkError(t, l, k, api.Move{Key: key, Count: -1}, api.ErrArg)
			}
			for _, count := range []int{math.MinInt, -1, api.MaxCount + 1, math.MaxInt} {
				checkError(t, l, 0, api.Move{Key: key, Count: count}, api.ErrArg)
			}
		}
	}
}

func TestRoomForSoManyNumbers(t *testing.T) {
	const n = api.MaxText
	for _, s := range []string{strings.Repeat("a ", n/2), strings.Repeat(" ", n), strings.Repeat("(", n/2) + strings.Repeat(")", n/2)} {
		l := of(s)
		for _, key := range of(keys) {
			for _, k := range []int{0, 1, n / 2, n - 2, n - 1} {
				for _, count := range []int{0, api.MaxCount} {
					checkMove(t, l, k, api.Move{Key: key, Count: count, Arg: l[0]})
				}
			}
			checkError(t, l, n, api.Move{Key: key}, api.ErrArg)
		}
	}
}

// A line that is too long is told ahead of all else.
func TestTooManyNumbers(t *testing.T) {
	for _, n := range []int{api.MaxText + 1, 9000} {
		l := make([]int, n)
		for _, key := range of(keys + "q") {
			for _, k := range []int{math.MinInt, -1, 0, n - 1, n, math.MaxInt} {
				checkError(t, l, k, api.Move{Key: key}, api.ErrLarge)
				checkError(t, l, k, api.Move{Key: key, Count: -1}, api.ErrLarge)
			}
		}
	}
}

// What stands in the memory ahead of a line and behind it is not seen.
func TestWhatIsHandedInStaysAsItWas(t *testing.T) {
	all := of("x (ab-c) x")
	want := slices.Clone(all)
	for from := range all {
		for to := from; to <= len(all); to++ {
			checkLine(t, all[from:to], []int{0, 2, api.MaxCount}, of("xb"))
			checkError(t, all[from:to], 0, api.Move{Key: 'q'}, api.ErrKey)
		}
	}
	if !slices.Equal(all, want) {
		t.Errorf("%v", all)
	}
}

// What is changed in a line behind a call is seen by the next call.
func TestNothingIsKeptFromCallToCall(t *testing.T) {
	l := of("ab (cd)")
	for range 2 {
		for at, c := range of("x[-") {
			was := l[at+2]
			checkLine(t, l, []int{0, 2}, of("bx"))
			l[at+2] = c
			checkLine(t, l, []int{0, 2}, of("bx"))
			checkError(t, make([]int, 5000), 0, api.Move{Key: 'w'}, api.ErrLarge)
			l[at+2] = was
		}
	}
}
