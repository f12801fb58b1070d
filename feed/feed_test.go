package feed_test

import (
	"math/rand"
	"slices"
	"strings"
	"sync"
	"testing"
	"unsafe"

	"fairhand/api"
	"fairhand/feed"
)

// known has the bytes of all characters, and their beginnings that are neither
// empty nor all of one.
type known struct {
	whole     map[string]int
	beginning map[string]bool
}

// knownBytes is made from the numbers alone, so that what is tested is not held
// against itself.
var knownBytes = sync.OnceValue(func() known {
	k := known{map[string]int{}, map[string]bool{}}
	for c := 0; c <= 0x10ffff; c++ {
		if 0xd800 <= c && c <= 0xdfff {
			continue
		}
		s := bytesOf(c)
		k.whole[s] = c
		for n := len(s) - 1; n > 0 && !k.beginning[s[:n]]; n-- {
			k.beginning[s[:n]] = true
		}
	}
	return k
})

func bytesOf(c int) string {
	low := func(k int) byte { return byte(0x80 + c/k%64) }
	switch {
	case c < 0x80:
		return string([]byte{byte(c)})
	case c < 0x800:
		return string([]byte{byte(0xc0 + c/64), low(1)})
	case c < 0x10000:
		return string([]byte{byte(0xe0 + c/4096), low(64), low(1)})
	}
	return string([]byte{byte(0xf0 + c/262144), low(4096), low(64), low(1)})
}

// taken is what the document says of s, word by word.
func taken(s string) (string, []int) {
	k := knownBytes()
	var l []int
	for s != "" && !k.beginning[s] {
		c, n := api.Bad, 1
		for m := 1; m <= min(4, len(s)); m++ {
			if k.beginning[s[:m]] {
				n = m
			}
			if whole, ok := k.whole[s[:m]]; ok {
				c, n = whole, m
				break
			}
		}
		l = append(l, c)
		s = s[n:]
	}
	return s, l
}

// eachText goes through all texts of up to most bytes out of edges.
func eachText(edges string, most int, yield func(string)) {
	var grow func(s string)
	grow = func(s string) {
		yield(s)
		if len(s) == most {
			return
		}
		for i := range len(edges) {
			grow(s + edges[i:i+1])
		}
	}
	grow("")
}

// The bytes at the edges of what a byte can mean; and fewer of them, for longer texts.
const (
	allEdges = "\x00A\x7f\x80\x82\x8f\x90\x9f\xa0\xbf\xc0\xc1\xc2\xdf\xe0\xe1\xec\xed\xee\xef\xf0\xf1\xf3\xf4\xf5\xf7\xf8\xff"
	fewEdges = "A\x80\x8f\x90\x9f\xa0\xc1\xc2\xe0\xe2\xed\xf0\xf1\xf4\xf5\xff"
)

// mixed has n bytes, many of them of characters, some cut, some none.
func mixed(r *rand.Rand, n int) string {
	var b strings.Builder
	for b.Len() < n {
		s := bytesOf([]int{'a', 0x7f, 0xe4, 0x7ff, 0x800, 0x20ac, 0xd7ff, 0xfffd, 0x10000, 0x1f600, 0x10ffff}[r.Intn(11)])
		switch r.Intn(4) {
		case 0:
			s = s[:r.Intn(len(s)+1)]
		case 1:
			at := r.Intn(len(allEdges))
			s = allEdges[at : at+1]
		}
		b.WriteString(s)
	}
	return b.String()[:n]
}

func TestCheckOfEveryBeginning(t *testing.T) {
	if err := feed.Check(""); err != api.OK {
		t.Error("of the empty text", err)
	}
	for s := range knownBytes().beginning {
		if err := feed.Check(s); err != api.OK {
			t.Fatalf("Check(%q): %v", s, err)
		}
	}
	for s := range knownBytes().whole {
		if err := feed.Check(s); err != api.ErrForm {
			t.Fatalf("Check(%q): %v", s, err)
		}
	}
}

func TestCheckAtTheEdges(t *testing.T) {
	for _, s := range []string{
		"", "\xc2", "\xdf", "\xe0", "\xe0\xa0", "\xe0\xbf", "\xe1\x80", "\xe2\x82", "\xec\xbf", "\xed", "\xed\x80", "\xed\x9f",
		"\xee\x80", "\xef", "\xef\xbf", "\xf0", "\xf0\x90", "\xf0\x9f\x98", "\xf1\x80", "\xf3\xbf\xbf", "\xf4", "\xf4\x8f", "\xf4\x8f\xbf",
	} {
		if err := feed.Check(s); err != api.OK {
			t.Errorf("Check(%q): %v", s, err)
		}
	}
	for _, s := range []string{
		// Characters, and what stands behind them.
		"a", "\x00", "\xc3\xa4", "\xe2\x82\xac", "\xf0\x9f\x98\x80", "a\xc3", "\xc3\xa4\xc3", "\xe2\x82\xac\xe2",
		// Bytes that no character begins with.
		"\x80", "\xbf", "\xc0", "\xc1", "\xf5", "\xf7", "\xf8", "\xff", "\x80\xc3",
		// Beginnings of what would be too long, no character, or too great.
		"\xe0\x80", "\xe0\x9f", "\xed\xa0", "\xed\xbf", "\xf0\x80", "\xf0\x8f", "\xf0\x8f\xbf", "\xf4\x90", "\xf4\x90\x80",
		// Further bytes that are none.
		"\xc3a", "\xc3\xc3", "\xe2a", "\xe2\x82a", "\xe2\xe2", "\xe2\x82\xe2", "\xf0\x9fa", "\xf0\x9f\xf0", "\xf0\x9f\x98\xc0",
		"\xf0\x9f\x98\x80\x80", strings.Repeat("\xe2", 5000),
	} {
		if err := feed.Check(s); err != api.ErrForm {
			t.Errorf("Check(%q): %v", s, err)
		}
	}
}

func TestCheckOfAllShortTexts(t *testing.T) {
	beginning := knownBytes().beginning
	eachText(allEdges, 4, func(s string) {
		want := api.ErrForm
		if s == "" || beginning[s] {
			want = api.OK
		}
		if err := feed.Check(s); err != want {
			t.Fatalf("Check(%q): %v", s, err)
		}
	})
}

func TestFeed(t *testing.T) {
	const bad = api.Bad
	for _, test := range []struct {
		pend, s, left string
		l             []int
	}{
		{"", "", "", nil},
		{"\xe2", "", "\xe2", nil},
		{"\xf0\x9f\x98", "", "\xf0\x9f\x98", nil},
		{"", "a\x00\x7f", "", []int{'a', 0, 0x7f}},
		{"", "\xc3\xa4\xe2\x82\xac\xf0\x9f\x98\x80", "", []int{0xe4, 0x20ac, 0x1f600}},
		{"", "\xef\xbf\xbd", "", []int{bad}},
		// Nothing is decided of a beginning, whatever was ahead of it.
		{"", "\xe2\x82", "\xe2\x82", nil},
		{"\xe2", "\x82", "\xe2\x82", nil},
		{"\xe2\x82", "\xac", "", []int{0x20ac}},
		{"", "a\xf0\x9f\x98", "\xf0\x9f\x98", []int{'a'}},
		{"\xf0", "\x9f\x98\x80\xc3", "\xc3", []int{0x1f600}},
		// The longest beginning is one Bad.
		{"\xe2", "A", "", []int{bad, 'A'}},
		{"\xe2\x82", "A", "", []int{bad, 'A'}},
		{"\xf0\x9f\x98", "\xc3", "\xc3", []int{bad}},
		{"", "\xf0\x9f\x98\xf0\x9f\x98a", "", []int{bad, bad, 'a'}},
		{"", "\xc3\xc3\xa4", "", []int{bad, 0xe4}},
		{"", "\xe2\x82\xe2\x82", "\xe2\x82", []int{bad}},
		// One byte is one Bad where no character begins so.
		{"", "\x80\xbf", "", []int{bad, bad}},
		{"", "\xc0\x80", "", []int{bad, bad}},
		{"", "\xc1", "", []int{bad}},
		{"", "\xf5\xf7\xf8\xff", "", []int{bad, bad, bad, bad}},
		{"", "\xe0\x9f\xbf", "", []int{bad, bad, bad}},
		{"", "\xed\xa0\x80", "", []int{bad, bad, bad}},
		{"\xed", "\xa0", "", []int{bad, bad}},
		{"", "\xf0\x8f\xbf\xbf", "", []int{bad, bad, bad, bad}},
		{"", "\xf4\x90\x80\x80", "", []int{bad, bad, bad, bad}},
		{"\xf4", "\x8f\xbf\xbf", "", []int{0x10ffff}},
	} {
		left, l, err := feed.Feed(test.pend, test.s)
		if left != test.left || !slices.Equal(l, test.l) || err != api.OK {
			t.Errorf("Feed(%q, %q): %q %x %v", test.pend, test.s, left, l, err)
		}
	}
}

func TestFeedOfAllShortTexts(t *testing.T) {
	check := func(s string) {
		want, wantList := taken(s)
		if left, l, err := feed.Feed("", s); left != want || !slices.Equal(l, wantList) || err != api.OK {
			t.Fatalf("Feed of %q: %q %x %v, not %q %x", s, left, l, err, want, wantList)
		}
	}
	eachText(allEdges, 4, check)
	eachText(fewEdges, 5, check)
}

func TestFeedTellsChecksErrorFirst(t *testing.T) {
	large := strings.Repeat("a", api.MaxText+1)
	for _, pend := range []string{"a", "\x80", "\xff", "\xe0\x80", "\xc3\xa4", "\xe2\x82\xac\xe2", "\xe2a", large} {
		for _, s := range []string{"", "a", "\xac", large} {
			if left, l, err := feed.Feed(pend, s); left != "" || len(l) != 0 || err != api.ErrForm {
				t.Errorf("Feed(%.5q, %.5q): %q %x %v", pend, s, left, l, err)
			}
		}
		if l, err := feed.End(pend); len(l) != 0 || err != api.ErrForm {
			t.Errorf("End(%.5q): %x %v", pend, l, err)
		}
	}
}

func TestFeedHasRoomForSoManyBytes(t *testing.T) {
	for _, pend := range []string{"", "\xc3", "\xf0\x9f\x98"} {
		for _, unit := range []string{"a", "\xff", "\xc3\xa4", "\xf0\x9f\x98\x80", "\xe2\x82"} {
			s := strings.Repeat(unit, api.MaxText)[:api.MaxText]
			want, wantList := taken(pend + s)
			if left, l, err := feed.Feed(pend, s); left != want || !slices.Equal(l, wantList) || err != api.OK {
				t.Errorf("Feed(%q, %d of %q): %q %d %v", pend, len(s), unit, left, len(l), err)
			}
			if left, l, err := feed.Feed(pend, s+"\x80"); left != "" || len(l) != 0 || err != api.ErrLarge {
				t.Errorf("Feed(%q, %d of %q): %q %d %v", pend, len(s)+1, unit, left, len(l), err)
			}
		}
	}
}

func TestEnd(t *testing.T) {
	if l, err := feed.End(""); len(l) != 0 || err != api.OK {
		t.Errorf("End of nothing: %x %v", l, err)
	}
	for s := range knownBytes().beginning {
		if l, err := feed.End(s); !slices.Equal(l, []int{api.Bad}) || err != api.OK {
			t.Fatalf("End(%q): %x %v", s, l, err)
		}
	}
	eachText(allEdges, 3, func(s string) {
		l, err := feed.End(s)
		if check := feed.Check(s); err != check || err != api.OK && len(l) != 0 {
			t.Fatalf("End(%q): %x %v; Check: %v", s, l, err, check)
		}
	})
}

// fedIn is what comes of pieces that are fed one after another, with the end.
func fedIn(t *testing.T, pieces []string) []int {
	t.Helper()
	var all []int
	pend := ""
	for _, piece := range pieces {
		left, l, err := feed.Feed(pend, piece)
		if err != api.OK {
			t.Fatalf("Feed(%q, %q): %v", pend, piece, err)
		}
		all = append(all, l...)
		pend = left
	}
	l, err := feed.End(pend)
	if err != api.OK {
		t.Fatalf("End(%q): %v", pend, err)
	}
	return append(all, l...)
}

func TestHoweverShortTextsAreCutTheSameCharactersCome(t *testing.T) {
	eachText(fewEdges, 4, func(s string) {
		want := fedIn(t, []string{s})
		for cuts := range 1 << max(0, len(s)-1) {
			var pieces []string
			from := 0
			for at := 1; at < len(s); at++ {
				if cuts>>(at-1)&1 == 1 {
					pieces = append(pieces, s[from:at])
					from = at
				}
			}
			pieces = append(pieces, s[from:])
			if got := fedIn(t, pieces); !slices.Equal(got, want) {
				t.Fatalf("%q: %x, not %x", pieces, got, want)
			}
		}
	})
}

func TestHoweverLongTextsAreCutTheSameCharactersCome(t *testing.T) {
	r := rand.New(rand.NewSource(7))
	for range 300 {
		s := mixed(r, r.Intn(500))
		left, want := taken(s)
		if left != "" {
			want = append(want, api.Bad)
		}
		for _, most := range []int{1, 2, 5, 40, 1000} {
			var pieces []string
			for rest := s; rest != ""; {
				n := min(len(rest), r.Intn(most+1))
				pieces = append(pieces, rest[:n])
				rest = rest[n:]
			}
			if got := fedIn(t, pieces); !slices.Equal(got, want) {
				t.Fatalf("%q: %x, not %x", pieces, got, want)
			}
		}
	}
}

func TestAnswersAreNewMemory(t *testing.T) {
	const s = "\x82\xaca\xffb"
	want := []int{0x20ac, 'a', api.Bad, 'b'}
	_, first, _ := feed.Feed("\xe2", s)
	_, second, _ := feed.Feed("\xe2", s)
	spare := first[:cap(first)]
	for i := range spare {
		spare[i] = -1
	}
	if _, third, _ := feed.Feed("\xe2", s); !slices.Equal(second, want) || !slices.Equal(third, want) {
		t.Errorf("%x, %x", second, third)
	}
	ended, _ := feed.End("\xe2")
	ended[0] = -1
	if again, _ := feed.End("\xe2"); !slices.Equal(again, []int{api.Bad}) {
		t.Errorf("%x", again)
	}
}

// What is pending is no piece of the text that it came in with.
func TestWhatIsPendingIsNewMemory(t *testing.T) {
	within := func(piece, s string) bool {
		if piece == "" || s == "" {
			return false
		}
		p, from := uintptr(unsafe.Pointer(unsafe.StringData(piece))), uintptr(unsafe.Pointer(unsafe.StringData(s)))
		return from <= p && p < from+uintptr(len(s))
	}
	for _, test := range [][2]string{{"", "\xf0\x9f\x98"}, {"\xf0\x9f\x98", ""}, {"", "aaaa\xf0\x9f"}, {"\xf0", "\x9f\x98"}, {"\xc3", "a\xe2\x82"}} {
		left, _, _ := feed.Feed(test[0], test[1])
		if left == "" || within(left, test[0]) || within(left, test[1]) {
			t.Errorf("Feed(%q, %q): %q", test[0], test[1], left)
		}
	}
}

func TestNothingIsKeptFromCallToCall(t *testing.T) {
	for range 2 {
		if left, l, err := feed.Feed("", "a\xe2\x82"); left != "\xe2\x82" || !slices.Equal(l, []int{'a'}) || err != api.OK {
			t.Errorf("%q %x %v", left, l, err)
		}
		if left, l, err := feed.Feed("", "\xac"); left != "" || !slices.Equal(l, []int{api.Bad}) || err != api.OK {
			t.Errorf("%q %x %v", left, l, err)
		}
		if _, _, err := feed.Feed("a", "b"); err != api.ErrForm {
			t.Error(err)
		}
		if l, err := feed.End(""); len(l) != 0 || err != api.OK {
			t.Errorf("%x %v", l, err)
		}
	}
}
