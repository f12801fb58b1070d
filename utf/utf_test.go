package utf_test

import (
	"math"
	"slices"
	"strings"
	"testing"
	"unicode/utf8"

	"fairhand/api"
	"fairhand/utf"
)

// wrong has numbers that are no characters: those beside the bounds, and those
// whose lower 32 bits alone would be a character.
func wrong() []int {
	return []int{
		-1, -'a', 0xd800, 0xd801, 0xdbff, 0xdc00, 0xdffe, 0xdfff, 0x110000, 0x1fffff,
		math.MaxInt32, math.MinInt32, math.MaxInt, math.MinInt, 1<<32 + 'a', 1 << 32, math.MinInt + 'a',
	}
}

// bytesOf writes the document's words on bytes down a second time, by numbers
// alone, so that the library is not held against itself.
func bytesOf(c int) string {
	low := func(k int) byte { return byte(0x80 + c/k%64) }
	switch {
	case c < 0x80:
		return string([]byte{byte(c)})
	case c < 0x800:
		return string([]byte{byte(0xc0 + c/64), low(1)})
	case c < 0x10000:
		return string([]byte{byte(0xe0 + c/4096), low(64), low(1)})
	}
	return string([]byte{byte(0xf0 + c/262144), low(4096), low(64), low(1)})
}

// eachCharacter goes through all of them, the smallest first.
func eachCharacter(yield func(int) bool) {
	for c := 0; c <= 0x10ffff; c++ {
		if c == 0xd800 {
			c = 0xe000
		}
		if !yield(c) {
			return
		}
	}
}

// eachText goes through all texts of up to most bytes that stand at the edges
// of what a byte can mean.
func eachText(most int, yield func(string)) {
	const edges = "\x00A\x7f\x80\x82\x8f\x90\x9f\xa0\xbf\xc0\xc1\xc2\xdf\xe0\xe2\xed\xef\xf0\xf4\xf5\xf7\xf8\xff"
	var grow func(s string)
	grow = func(s string) {
		yield(s)
		if len(s) == most {
			return
		}
		for i := range len(edges) {
			grow(s + edges[i:i+1])
		}
	}
	grow("")
}

func TestPutHasTheBytesOfEachCharacter(t *testing.T) {
	for c := range eachCharacter {
		if s, err := utf.Put(c); s != bytesOf(c) || err != api.OK {
			t.Fatalf("Put(%x): %q %v", c, s, err)
		}
	}
}

func TestPutAtTheEdges(t *testing.T) {
	for c, want := range map[int]string{
		0: "\x00", 'A': "A", 0x7f: "\x7f", 0x80: "\xc2\x80", 0x7ff: "\xdf\xbf", 0x800: "\xe0\xa0\x80",
		0x20ac: "\xe2\x82\xac", 0xd7ff: "\xed\x9f\xbf", 0xe000: "\xee\x80\x80", 0xfffd: "\xef\xbf\xbd",
		0xffff: "\xef\xbf\xbf", 0x10000: "\xf0\x90\x80\x80", 0x10ffff: "\xf4\x8f\xbf\xbf",
	} {
		if s, err := utf.Put(c); s != want || err != api.OK {
			t.Errorf("Put(%x): %q %v", c, s, err)
		}
	}
}

func TestPutRefusesWhatIsNoCharacter(t *testing.T) {
	for _, c := range wrong() {
		if s, err := utf.Put(c); s != "" || err != api.ErrArg {
			t.Errorf("Put(%x): %q %v", c, s, err)
		}
	}
	for c := 0xd800; c <= 0xdfff; c++ {
		if s, err := utf.Put(c); s != "" || err != api.ErrArg {
			t.Fatalf("Put(%x): %q %v", c, s, err)
		}
	}
}

func TestGetHasEachCharacterWhateverIsBehindIt(t *testing.T) {
	for c := range eachCharacter {
		s := bytesOf(c)
		for _, behind := range []string{"", "z", "\x80", "\xff"} {
			if d, n, err := utf.Get(s + behind); d != c || n != len(s) || err != api.OK {
				t.Fatalf("Get(%q): %x %d %v", s+behind, d, n, err)
			}
		}
	}
}

func TestGetIsShortWhereACharacterIsCut(t *testing.T) {
	for c := range eachCharacter {
		s := bytesOf(c)
		for n := range len(s) {
			if d, m, err := utf.Get(s[:n]); d != 0 || m != 0 || err != api.ErrShort {
				t.Fatalf("Get(%q): %x %d %v", s[:n], d, m, err)
			}
		}
	}
}

func TestGetTellsTheErrorThatComesFirst(t *testing.T) {
	for s, want := range map[string]api.Errno{
		"": api.ErrShort,
		// A first byte that no character has is told ahead of all else.
		"\x80": api.ErrForm, "\xbf": api.ErrForm, "\xbfz": api.ErrForm, "\x80\x80": api.ErrForm,
		"\xf8": api.ErrForm, "\xff": api.ErrForm, "\xfb\x80\x80\x80\x80": api.ErrForm, "\xfe\x80": api.ErrForm,
		// A first byte is like a character's by its top bits alone.
		"\xc0": api.ErrShort, "\xc1": api.ErrShort, "\xf5": api.ErrShort, "\xf7": api.ErrShort,
		// A further byte that is wrong is told ahead of an end behind it, and an end ahead of what the number is.
		"\xe2a": api.ErrForm, "\xf0a": api.ErrForm, "\xf0\x90a": api.ErrForm, "\xf0\xc2": api.ErrForm,
		"\xc2\xff": api.ErrForm, "\xe2\x82\xc0": api.ErrForm, "\xe2\x82\x7f": api.ErrForm, "\xf0\x90\x80\x00": api.ErrForm,
		"\xe2": api.ErrShort, "\xe2\x82": api.ErrShort, "\xf0\x90": api.ErrShort, "\xf0\x90\x80": api.ErrShort,
		"\xe0\x80": api.ErrShort, "\xed\xa0": api.ErrShort, "\xf4\x90": api.ErrShort, "\xf7\xbf\xbf": api.ErrShort,
		// Fewer bytes would do.
		"\xc0\x80": api.ErrForm, "\xc1\xbf": api.ErrForm, "\xe0\x80\x80": api.ErrForm, "\xe0\x9f\xbf": api.ErrForm,
		"\xf0\x80\x80\x80": api.ErrForm, "\xf0\x8f\xbf\xbf": api.ErrForm,
		// The number is no character.
		"\xed\xa0\x80": api.ErrForm, "\xed\xbf\xbf": api.ErrForm, "\xf4\x90\x80\x80": api.ErrForm, "\xf7\xbf\xbf\xbf": api.ErrForm,
	} {
		if c, n, err := utf.Get(s); c != 0 || n != 0 || err != want {
			t.Errorf("Get(%q): %x %d %v, not %v", s, c, n, err, want)
		}
	}
}

// isCut asks whether s ends ahead of a byte that is looked at.
func isCut(s string) bool {
	if s == "" {
		return true
	}
	whole := 4
	switch first := s[0]; {
	case first < 0xc0 || 0xf7 < first:
		return false
	case first < 0xe0:
		whole = 2
	case first < 0xf0:
		whole = 3
	}
	for i := 1; i < len(s); i++ {
		if s[i] < 0x80 || 0xbf < s[i] {
			return false
		}
	}
	return len(s) < whole
}

func TestGetOfAllShortTexts(t *testing.T) {
	eachText(4, func(s string) {
		c, n, err := utf.Get(s)
		want := api.ErrForm
		if isCut(s) {
			want = api.ErrShort
		}
		if r, size := utf8.DecodeRuneInString(s); size > 1 || r != utf8.RuneError {
			if c != int(r) || n != size || err != api.OK {
				t.Fatalf("Get(%q): %x %d %v", s, c, n, err)
			}
		} else if c != 0 || n != 0 || err != want {
			t.Fatalf("Get(%q): %x %d %v, not %v", s, c, n, err, want)
		}
	})
}

func TestTheGreaterCharacterHasTheGreaterBytes(t *testing.T) {
	last := ""
	for c := range eachCharacter {
		s, _ := utf.Put(c)
		if s <= last {
			t.Fatalf("%x: %q is not behind %q", c, s, last)
		}
		last = s
	}
}

func TestAllHasTheCharactersAndWhereTheTextEnds(t *testing.T) {
	for s, want := range map[string][]int{
		"": nil, "a": {'a'}, "\x00\x00": {0, 0}, "a\xc3\xa4": {'a', 0xe4}, "\xe2\x82\xacb": {0x20ac, 'b'},
		"\xef\xbf\xbd": {0xfffd}, "\xf4\x8f\xbf\xbf\x7f\xc2\x80": {0x10ffff, 0x7f, 0x80},
	} {
		if l, at, err := utf.All(s); !slices.Equal(l, want) || at != len(s) || err != api.OK {
			t.Errorf("All(%q): %x %d %v", s, l, at, err)
		}
	}
}

func TestAllTellsTheFirstErrorAndItsPlaceInBytes(t *testing.T) {
	for _, test := range []struct {
		s   string
		at  int
		err api.Errno
	}{
		{"\xff", 0, api.ErrForm}, {"\xe2\x82", 0, api.ErrShort}, {"ab\xff", 2, api.ErrForm}, {"\xff\xe2", 0, api.ErrForm},
		{"a\xc3\xa4\xc3", 3, api.ErrShort}, {"\xc3\xc3", 0, api.ErrForm}, {"\xe2\x82\xac\x80\xff", 3, api.ErrForm},
		{"\xef\xbf\xbd\xed\xa0\x80a", 3, api.ErrForm}, {"\xf0\x90\x80\x80\xf0\x90\x80", 4, api.ErrShort},
	} {
		if l, at, err := utf.All(test.s); len(l) != 0 || at != test.at || err != test.err {
			t.Errorf("All(%q): %x %d %v", test.s, l, at, err)
		}
	}
}

func TestTextIsTheBytesOneBehindTheOther(t *testing.T) {
	var l []int
	var want strings.Builder
	for c := range eachCharacter {
		l = append(l, c)
		want.WriteString(bytesOf(c))
	}
	s, err := utf.Text(l)
	if s != want.String() || err != api.OK {
		t.Fatal("the text of all characters", err)
	}
	if again, at, err := utf.All(s); !slices.Equal(again, l) || at != len(s) || err != api.OK {
		t.Error("all characters of that text", at, err)
	}
	if n, err := utf.Count(s); n != len(l) || err != api.OK {
		t.Error("the count of that text", n, err)
	}
	for _, none := range [][]int{nil, {}} {
		if s, err := utf.Text(none); s != "" || err != api.OK {
			t.Errorf("Text of nothing: %q %v", s, err)
		}
	}
}

func TestTextRefusesWhatIsNoCharacter(t *testing.T) {
	for _, c := range wrong() {
		for _, l := range [][]int{{c}, {c, 'a', 'b'}, {'a', c, 'b'}, {'a', 0xe4, c}} {
			if s, err := utf.Text(l); s != "" || err != api.ErrArg {
				t.Errorf("Text(%x): %q %v", l, s, err)
			}
		}
	}
}

func TestCount(t *testing.T) {
	for s, want := range map[string]int{
		"": 0, "a": 1, "\x00": 1, "a\xc3\xa4": 2, "\xe2\x82\xac\xe2\x82\xac": 2, "\xf4\x8f\xbf\xbf": 1,
		"\xef\xbf\xbd": 1, "a\xef\xbf\xbdb\xef\xbf\xbd": 4,
	} {
		if n, err := utf.Count(s); n != want || err != api.OK {
			t.Errorf("Count(%q): %d %v", s, n, err)
		}
	}
	for s, want := range map[string]api.Errno{
		"\xff": api.ErrForm, "ab\xff": api.ErrForm, "ab\xe2\x82": api.ErrShort, "\xef\xbf\xbd\xef\xbf": api.ErrShort,
		"\xed\xa0\x80": api.ErrForm, "\xc0\x80": api.ErrForm, "\xff\xc3": api.ErrForm, "\xc3": api.ErrShort, "\xe2\x82z": api.ErrForm,
	} {
		if n, err := utf.Count(s); n != 0 || err != want {
			t.Errorf("Count(%q): %d %v", s, n, err)
		}
	}
}

// Any bytes may come: each call answers, and what one says of them the others say, too.
func TestTheCallsAgreeOnAllShortTexts(t *testing.T) {
	eachText(4, func(s string) {
		l, at, err := utf.All(s)
		n, countErr := utf.Count(s)
		if countErr != err || n != len(l) {
			t.Fatalf("Count(%q): %d %v; All: %d %v", s, n, countErr, len(l), err)
		}
		if err != api.OK {
			if _, _, getErr := utf.Get(s[at:]); getErr != err || len(l) != 0 {
				t.Fatalf("All(%q): %x %v; Get at %d: %v", s, l, err, at, getErr)
			}
			s = s[:at]
			l, at, err = utf.All(s)
		}
		if text, textErr := utf.Text(l); text != s || textErr != api.OK || at != len(s) || err != api.OK {
			t.Fatalf("All(%q): %x %d %v; Text: %q %v", s, l, at, err, text, textErr)
		}
	})
}

func TestTextLeavesTheListAsItIs(t *testing.T) {
	for _, c := range []int{0x20ac, -1} {
		memory := []int{7, 'a', c, 'b', 8, 9}
		kept := slices.Clone(memory)
		utf.Text(memory[1:4])
		if !slices.Equal(memory, kept) {
			t.Errorf("the list became %x", memory)
		}
	}
}

func TestAnswersAreNewMemory(t *testing.T) {
	const s = "a\xc3\xa4\xe2\x82\xac"
	want := []int{'a', 0xe4, 0x20ac}
	first, _, _ := utf.All(s)
	second, _, _ := utf.All(s)
	spare := first[:cap(first)]
	for i := range spare {
		spare[i] = -1
	}
	third, _, _ := utf.All(s)
	if !slices.Equal(second, want) || !slices.Equal(third, want) {
		t.Errorf("%x, %x", second, third)
	}
	l := slices.Clone(want)
	text, _ := utf.Text(l)
	clear(l)
	if text != s {
		t.Errorf("the text became %q", text)
	}
}

func TestAnErrorIsNotKeptFromCallToCall(t *testing.T) {
	for range 2 {
		if _, _, err := utf.All("a\xff"); err != api.ErrForm {
			t.Error(err)
		}
		if l, at, err := utf.All("ab"); !slices.Equal(l, []int{'a', 'b'}) || at != 2 || err != api.OK {
			t.Error(l, at, err)
		}
		if _, err := utf.Text([]int{'a', -1}); err != api.ErrArg {
			t.Error(err)
		}
		if s, err := utf.Text([]int{'b'}); s != "b" || err != api.OK {
			t.Error(s, err)
		}
	}
}
