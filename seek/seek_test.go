package seek_test

import (
	"math"
	"math/rand"
	"slices"
	"testing"

	"fairhand/api"
	"fairhand/seek"
)

// of a text: its bytes as numbers.
func of(s string) []int {
	var l []int
	for i := range len(s) {
		l = append(l, int(s[i]))
	}
	return l
}

// bordersOf tries every length, as the document says what a border is.
func bordersOf(p []int) []int {
	var all []int
	for i := range p {
		beginning := p[:i+1]
		longest := 0
		for n := 1; n < len(beginning); n++ {
			if slices.Equal(beginning[:n], beginning[len(beginning)-n:]) {
				longest = n
			}
		}
		all = append(all, longest)
	}
	return all
}

// placesOf tries every place.
func placesOf(p, s []int) []int {
	var all []int
	for at := 0; at+len(p) <= len(s); at++ {
		if slices.Equal(s[at:at+len(p)], p) {
			all = append(all, at)
		}
	}
	return all
}

// nextOf and lastOf go through the places one by one.
func nextOf(places []int, from int) (int, api.Errno) {
	for _, at := range places {
		if at >= from {
			return at, api.OK
		}
	}
	return 0, api.ErrNone
}

func lastOf(places []int, before int) (int, api.Errno) {
	last, err := 0, api.ErrNone
	for _, at := range places {
		if at < before {
			last, err = at, api.OK
		}
	}
	return last, err
}

// eachList goes through all lists of up to most of the first kinds numbers.
func eachList(kinds, most int, yield func([]int)) {
	var grow func(l []int)
	grow = func(l []int) {
		yield(slices.Clone(l))
		if len(l) == most {
			return
		}
		for k := range kinds {
			grow(append(slices.Clone(l), k))
		}
	}
	grow(nil)
}

// mixed has n numbers of few kinds, pieces of it again and again, so that words
// nearly stand in it often.
func mixed(r *rand.Rand, n int) []int {
	var l []int
	for len(l) < n {
		if len(l) > 0 && r.Intn(3) > 0 {
			from := r.Intn(len(l))
			to := from + r.Intn(len(l)-from) + 1
			l = append(l, l[from:to]...)
		}
		l = append(l, r.Intn(2+r.Intn(2)))
	}
	return l[:n]
}

func checkBorders(t *testing.T, p []int) {
	t.Helper()
	if got, err := seek.Borders(p); !slices.Equal(got, bordersOf(p)) || err != api.OK {
		t.Fatalf("Borders(%v): %v %v", p, got, err)
	}
}

func checkPlaces(t *testing.T, p, s []int) {
	t.Helper()
	want := placesOf(p, s)
	if got, err := seek.All(p, s); !slices.Equal(got, want) || err != api.OK {
		t.Fatalf("All(%v, %v): %v %v", p, s, got, err)
	}
	for k := -2; k <= len(s)+2; k++ {
		checkNextAndLast(t, p, s, want, k)
	}
	checkNextAndLast(t, p, s, want, math.MinInt)
	checkNextAndLast(t, p, s, want, math.MaxInt)
}

func checkNextAndLast(t *testing.T, p, s, places []int, k int) {
	t.Helper()
	at, err := seek.Next(p, s, k)
	if want, wantErr := nextOf(places, k); at != want || err != wantErr {
		t.Fatalf("Next(%v, %v, %d): %d %v", p, s, k, at, err)
	}
	at, err = seek.Last(p, s, k)
	if want, wantErr := lastOf(places, k); at != want || err != wantErr {
		t.Fatalf("Last(%v, %v, %d): %d %v", p, s, k, at, err)
	}
}

func TestBorders(t *testing.T) {
	for _, test := range []struct {
		p    string
		want []int
	}{
		{"", nil},
		{"a", []int{0}},
		{"ab", []int{0, 0}},
		{"aa", []int{0, 1}},
		{"aaaa", []int{0, 1, 2, 3}},
		{"ababac", []int{0, 0, 1, 2, 3, 0}},
		{"abcabd", []int{0, 0, 0, 1, 2, 0}},
		// The longest border can't be gone on with, a shorter one can.
		{"aabaaa", []int{0, 1, 0, 1, 2, 2}},
		{"aabaaab", []int{0, 1, 0, 1, 2, 2, 3}},
		{"abacabab", []int{0, 0, 1, 0, 1, 2, 3, 2}},
	} {
		if got, err := seek.Borders(of(test.p)); !slices.Equal(got, test.want) || err != api.OK {
			t.Errorf("Borders of %q: %v %v", test.p, got, err)
		}
	}
}

func TestAll(t *testing.T) {
	for _, test := range []struct {
		p, s string
		want []int
	}{
		{"a", "", nil},
		{"a", "a", []int{0}},
		{"ab", "a", nil},
		{"ab", "b", nil},
		{"ab", "ab", []int{0}},
		{"ab", "abxab", []int{0, 3}},
		{"ab", "xaab", []int{2}},
		// They may overlap.
		{"aa", "aaa", []int{0, 1}},
		{"aba", "ababa", []int{0, 2}},
		{"aabaa", "aabaabaa", []int{0, 3}},
		// Of an empty word all places, that behind the last number included.
		{"", "", []int{0}},
		{"", "a", []int{0, 1}},
		{"", "ab", []int{0, 1, 2}},
	} {
		if got, err := seek.All(of(test.p), of(test.s)); !slices.Equal(got, test.want) || err != api.OK {
			t.Errorf("All(%q, %q): %v %v", test.p, test.s, got, err)
		}
	}
}

func TestNext(t *testing.T) {
	for _, test := range []struct {
		p, s     string
		from, at int
		err      api.Errno
	}{
		{"a", "aba", 0, 0, api.OK},
		{"a", "aba", 1, 2, api.OK},
		{"a", "aba", 2, 2, api.OK},
		{"a", "aba", 3, 0, api.ErrNone},
		{"a", "aba", -5, 0, api.OK},
		{"a", "aba", math.MinInt, 0, api.OK},
		{"a", "aba", math.MaxInt, 0, api.ErrNone},
		{"c", "aba", -5, 0, api.ErrNone},
		{"aba", "ababa", 1, 2, api.OK},
		{"", "ab", 2, 2, api.OK},
		{"", "ab", 3, 0, api.ErrNone},
		{"", "", -1, 0, api.OK},
		{"a", "", 0, 0, api.ErrNone},
	} {
		if at, err := seek.Next(of(test.p), of(test.s), test.from); at != test.at || err != test.err {
			t.Errorf("Next(%q, %q, %d): %d %v", test.p, test.s, test.from, at, err)
		}
	}
}

func TestLast(t *testing.T) {
	for _, test := range []struct {
		p, s       string
		before, at int
		err        api.Errno
	}{
		{"a", "aba", 3, 2, api.OK},
		{"a", "aba", 2, 0, api.OK},
		{"a", "aba", 1, 0, api.OK},
		{"a", "aba", 0, 0, api.ErrNone},
		{"a", "aba", -5, 0, api.ErrNone},
		{"a", "aba", math.MinInt, 0, api.ErrNone},
		{"a", "aba", math.MaxInt, 2, api.OK},
		{"c", "aba", 3, 0, api.ErrNone},
		// It may reach beyond before: where it begins is what counts.
		{"aba", "ababa", 3, 2, api.OK},
		{"aba", "ababa", 2, 0, api.OK},
		{"", "ab", 9, 2, api.OK},
		{"", "ab", 2, 1, api.OK},
		{"", "", 1, 0, api.OK},
		{"", "", 0, 0, api.ErrNone},
		{"a", "", 1, 0, api.ErrNone},
	} {
		if at, err := seek.Last(of(test.p), of(test.s), test.before); at != test.at || err != test.err {
			t.Errorf("Last(%q, %q, %d): %d %v", test.p, test.s, test.before, at, err)
		}
	}
}

func TestBordersOfAllShortLists(t *testing.T) {
	check := func(p []int) { checkBorders(t, p) }
	eachList(2, 13, check)
	eachList(3, 8, check)
}

func TestPlacesInAllShortLists(t *testing.T) {
	both := func(kinds, mostWord, mostLine int) {
		eachList(kinds, mostWord, func(p []int) {
			eachList(kinds, mostLine, func(s []int) { checkPlaces(t, p, s) })
		})
	}
	both(2, 5, 7)
	both(3, 3, 5)
}

func TestLongerListsWithPiecesAgainAndAgain(t *testing.T) {
	r := rand.New(rand.NewSource(3))
	for range 300 {
		s := mixed(r, 1+r.Intn(150))
		checkBorders(t, s)
		from := r.Intn(len(s))
		p := slices.Clone(s[from : from+r.Intn(len(s)-from)+1])
		checkPlaces(t, p, s)
		p[len(p)-1]++
		checkPlaces(t, p, s)
	}
}

func TestAnyNumberIsOne(t *testing.T) {
	const most, least = math.MaxInt, math.MinInt
	s := []int{most, least, -1, 0, most, least, 0x110000, most, most, least, -1, 1 << 32, 0}
	checkBorders(t, s)
	for from := range s {
		for to := from; to <= len(s); to++ {
			checkPlaces(t, s[from:to], s)
		}
	}
	// Numbers that only some of their bits tell apart.
	if got, err := seek.All([]int{1}, []int{1 + 1<<32, 1 + 1<<8, 1 - 1<<32, 1}); !slices.Equal(got, []int{3}) || err != api.OK {
		t.Errorf("%v %v", got, err)
	}
}

func TestRoomForSoManyNumbers(t *testing.T) {
	full := make([]int, api.MaxText)
	if got, err := seek.Borders(full); len(got) != api.MaxText || got[api.MaxText-1] != api.MaxText-1 || err != api.OK {
		t.Errorf("Borders: %d %v", len(got), err)
	}
	if got, err := seek.All(full, full); !slices.Equal(got, []int{0}) || err != api.OK {
		t.Errorf("All of the line itself: %d %v", len(got), err)
	}
	if got, err := seek.All(nil, full); len(got) != api.MaxText+1 || got[api.MaxText] != api.MaxText || err != api.OK {
		t.Errorf("All of nothing: %d %v", len(got), err)
	}
	if at, err := seek.Next([]int{0}, full, api.MaxText-1); at != api.MaxText-1 || err != api.OK {
		t.Errorf("Next: %d %v", at, err)
	}
	if at, err := seek.Last(full, full, 1); at != 0 || err != api.OK {
		t.Errorf("Last: %d %v", at, err)
	}
}

func TestTooManyNumbers(t *testing.T) {
	large, small := make([]int, api.MaxText+1), []int{0}
	if got, err := seek.Borders(large); len(got) != 0 || err != api.ErrLarge {
		t.Errorf("Borders: %d %v", len(got), err)
	}
	for _, test := range [][2][]int{{large, small}, {small, large}, {large, large}, {large, nil}, {nil, large}, {make([]int, 9000), nil}} {
		p, s := test[0], test[1]
		if got, err := seek.All(p, s); len(got) != 0 || err != api.ErrLarge {
			t.Errorf("All of %d and %d: %d %v", len(p), len(s), len(got), err)
		}
		for _, k := range []int{math.MinInt, -1, 0, 1, api.MaxText, math.MaxInt} {
			if at, err := seek.Next(p, s, k); at != 0 || err != api.ErrLarge {
				t.Errorf("Next of %d and %d, %d: %d %v", len(p), len(s), k, at, err)
			}
			if at, err := seek.Last(p, s, k); at != 0 || err != api.ErrLarge {
				t.Errorf("Last of %d and %d, %d: %d %v", len(p), len(s), k, at, err)
			}
		}
	}
}

// spared has l with other numbers ahead of it and behind it in its memory.
func spared(l []int) (all, list []int) {
	all = slices.Concat([]int{7, 7, 7}, l, []int{8, 8, 8, 8})
	return all, all[3 : 3+len(l)]
}

func TestWhatIsHandedInStaysAsItWas(t *testing.T) {
	allP, p := spared([]int{1, 2, 1})
	allS, s := spared([]int{1, 2, 1, 2, 1})
	wantP, wantS := slices.Clone(allP), slices.Clone(allS)
	borders, _ := seek.Borders(p)
	places, _ := seek.All(p, s)
	every, _ := seek.All(nil, s)
	seek.Next(p, s, 1)
	seek.Last(p, s, 4)
	for _, answer := range [][]int{borders, places, every} {
		answer = answer[:cap(answer)]
		for i := range answer {
			answer[i] = -1
		}
	}
	if !slices.Equal(allP, wantP) || !slices.Equal(allS, wantS) {
		t.Errorf("%v %v", allP, allS)
	}
}

func TestAnswersAreNewMemory(t *testing.T) {
	p, s := of("aba"), of("ababa")
	for name, answer := range map[string]func() []int{
		"Borders":        func() []int { l, _ := seek.Borders(p); return l },
		"All":            func() []int { l, _ := seek.All(p, s); return l },
		"All of nothing": func() []int { l, _ := seek.All(nil, s); return l },
	} {
		first, second := answer(), answer()
		want := slices.Clone(first)
		spare := first[:cap(first)]
		for i := range spare {
			spare[i] = -1
		}
		if third := answer(); !slices.Equal(second, want) || !slices.Equal(third, want) {
			t.Errorf("%s: %v %v, not %v", name, second, third, want)
		}
	}
}

// What is changed in a list behind a call is seen by the next call.
func TestNothingIsKeptFromCallToCall(t *testing.T) {
	p, s := of("ab"), of("abab")
	for range 2 {
		if got, _ := seek.All(p, s); !slices.Equal(got, []int{0, 2}) {
			t.Error(got)
		}
		p[1], s[1] = 'a', 'a'
		if got, _ := seek.Borders(p); !slices.Equal(got, []int{0, 1}) {
			t.Error(got)
		}
		if got, _ := seek.All(p, s); !slices.Equal(got, []int{0, 1}) {
			t.Error(got)
		}
		if at, err := seek.Next(p, s, 1); at != 1 || err != api.OK {
			t.Error(at, err)
		}
		if at, err := seek.Last(p, s, 1); at != 0 || err != api.OK {
			t.Error(at, err)
		}
		if _, err := seek.All(make([]int, 5000), s); err != api.ErrLarge {
			t.Error(err)
		}
		p[1], s[1] = 'b', 'b'
	}
}
