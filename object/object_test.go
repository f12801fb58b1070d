package object_test

import (
	"math"
	"math/rand"
	"slices"
	"strings"
	"testing"

	"fairhand/api"
	"fairhand/object"
)

const keys = "wW()[]{}\"'`"

// of a text: its characters.
func of(s string) []int {
	var l []int
	for _, c := range s {
		l = append(l, int(c))
	}
	return l
}

// kindOf tells blanks, signs of a name and others apart.
func kindOf(c int, big bool) int {
	switch {
	case c == 9 || c == 32:
		return 0
	case big || c > 127 || c == '_' || c >= 'a' && c <= 'z' || c >= 'A' && c <= 'Z' || c >= '0' && c <= '9':
		return 1
	}
	return 2
}

// thing is what Of tells.
type thing struct {
	from, to int
	err      api.Errno
}

var none = thing{err: api.ErrNone}

type run struct{ from, to, kind int }

// runsOf cuts all of a line into runs, from the front on.
func runsOf(l []int, big bool) []run {
	var all []run
	for at, c := range l {
		if last := len(all) - 1; last >= 0 && all[last].kind == kindOf(c, big) {
			all[last].to++
			continue
		}
		all = append(all, run{at, at + 1, kindOf(c, big)})
	}
	return all
}

// wordOf looks the run with k in it up in the list of all runs, and its
// neighbours there.
func wordOf(l []int, k int, around, big bool) thing {
	all := runsOf(l, big)
	i := slices.IndexFunc(all, func(r run) bool { return r.from <= k && k < r.to })
	if i < 0 {
		return none
	}
	it := thing{from: all[i].from, to: all[i].to}
	if !around {
		return it
	}
	if i+1 < len(all) && (all[i].kind == 0 || all[i+1].kind == 0) {
		it.to = all[i+1].to
		return it
	}
	if all[i].kind != 0 && i > 0 && all[i-1].kind == 0 {
		it.from = all[i-1].from
	}
	return it
}

type pair struct{ first, last int }

// bracketPairsOf goes back from each bracket that closes to the last one that
// opens and is not taken yet.
func bracketPairsOf(l []int, opens, closes int) []pair {
	var all []pair
	taken := make([]bool, len(l))
	for last, c := range l {
		if c != closes {
			continue
		}
		for first := last - 1; first >= 0; first-- {
			if l[first] == opens && !taken[first] {
				taken[first] = true
				all = append(all, pair{first, last})
				break
			}
		}
	}
	return all
}

// bracketOf goes through all pairs, as the document says it.
func bracketOf(l []int, k int, kind string) (pair, bool) {
	best, found := pair{}, false
	for _, p := range bracketPairsOf(l, int(kind[0]), int(kind[1])) {
		if p.first <= k && p.last >= k && (!found || p.first > best.first) {
			best, found = p, true
		}
	}
	return best, found
}

// quoteOf lists the places of the sign ahead of taking two by two.
func quoteOf(l []int, k, sign int) (pair, bool) {
	var places []int
	for at, c := range l {
		if c == sign {
			places = append(places, at)
		}
	}
	for two := range slices.Chunk(places, 2) {
		if len(two) == 2 && two[1] >= k {
			return pair{two[0], two[1]}, true
		}
	}
	return pair{}, false
}

func wantOf(l []int, k int, around bool, key int) thing {
	if key == 'w' || key == 'W' {
		return wordOf(l, k, around, key == 'W')
	}
	p, found := quoteOf(l, k, key)
	for _, kind := range []string{"()", "[]", "{}"} {
		if strings.ContainsRune(kind, rune(key)) {
			p, found = bracketOf(l, k, kind)
		}
	}
	switch {
	case !found:
		return none
	case around:
		return thing{from: p.first, to: p.last + 1}
	}
	return thing{from: p.first + 1, to: p.last}
}

func checkOf(t *testing.T, l []int, k int, around bool, key int, want thing) {
	t.Helper()
	if from, to, err := object.Of(l, k, around, key); (thing{from, to, err}) != want {
		t.Fatalf("Of(%v, %d, %v, %q): %d %d %v, not %v", l, k, around, rune(key), from, to, err, want)
	}
}

// checkLine tries all keys at all places of a line.
func checkLine(t *testing.T, l []int) {
	t.Helper()
	for k := range max(1, len(l)) {
		for _, key := range of(keys) {
			checkOf(t, l, k, false, key, wantOf(l, k, false, key))
			checkOf(t, l, k, true, key, wantOf(l, k, true, key))
		}
	}
}

func checkError(t *testing.T, l []int, k, key int, want api.Errno) {
	t.Helper()
	for _, around := range []bool{false, true} {
		if from, to, err := object.Of(l, k, around, key); from != 0 || to != 0 || err != want {
			t.Errorf("Of %d, %d, %v, %d: %d %d %v, not %v", len(l), k, around, key, from, to, err, want)
		}
	}
}

// told is a thing by its two places without what is around it, then with it.
type told struct {
	s                    string
	k                    int
	from, to             int
	aroundFrom, aroundTo int
}

func checkTold(t *testing.T, signs string, tests []told) {
	t.Helper()
	for _, test := range tests {
		for _, key := range of(signs) {
			checkOf(t, of(test.s), test.k, false, key, thing{from: test.from, to: test.to})
			checkOf(t, of(test.s), test.k, true, key, thing{from: test.aroundFrom, to: test.aroundTo})
		}
	}
}

func TestWords(t *testing.T) {
	checkTold(t, "w", []told{
		{"ab cd", 0, 0, 2, 0, 3},
		{"ab cd", 1, 0, 2, 0, 3},
		// A blank takes what is behind it, not what is ahead of it.
		{"ab cd", 2, 2, 3, 2, 5},
		// Behind the last word there is none, so that the one ahead is taken.
		{"ab cd", 3, 3, 5, 2, 5},
		{"ab cd", 4, 3, 5, 2, 5},
		// Of two blanks the one behind is taken, and only that.
		{"a  b\t c", 3, 3, 4, 3, 6},
		{"a  b\t c", 2, 1, 3, 1, 4},
		{"a  b\t c", 4, 4, 6, 4, 7},
		{"  ab", 2, 2, 4, 0, 4},
		{"  ab", 0, 0, 2, 0, 4},
		// A blank at the end takes nothing.
		{"ab  ", 3, 2, 4, 2, 4},
		{"ab  ", 0, 0, 2, 0, 4},
		// A word and a sign beside each other are not taken together.
		{"ab-c", 0, 0, 2, 0, 2},
		{"ab-c", 2, 2, 3, 2, 3},
		{"ab-c", 3, 3, 4, 3, 4},
		{"- ab-c", 2, 2, 4, 1, 4},
		{"ab-c d", 3, 3, 4, 3, 5},
		{"ab -c", 1, 0, 2, 0, 3},
		{"ab -c", 2, 2, 3, 2, 4},
		{"   ", 1, 0, 3, 0, 3},
		{"\t ", 1, 0, 2, 0, 2},
		{"aä_9 ", 1, 0, 4, 0, 5},
		{"a", 0, 0, 1, 0, 1},
		{"-", 0, 0, 1, 0, 1},
		{" ", 0, 0, 1, 0, 1},
	})
}

func TestBigWords(t *testing.T) {
	checkTold(t, "W", []told{
		{"ab-c d", 0, 0, 4, 0, 5},
		{"ab-c d", 2, 0, 4, 0, 5},
		{"ab-c d", 4, 4, 5, 4, 6},
		{"ab-c d", 5, 5, 6, 4, 6},
		{"ab-c", 3, 0, 4, 0, 4},
		{"d (a\nb)", 4, 2, 7, 1, 7},
		{"  ", 0, 0, 2, 0, 2},
	})
}

func TestBrackets(t *testing.T) {
	for _, kind := range []string{"()", "[]", "{}"} {
		as := func(s string) string {
			return strings.NewReplacer("(", kind[:1], ")", kind[1:]).Replace(s)
		}
		checkTold(t, kind, []told{
			{as("x(ab)y"), 1, 2, 4, 1, 5},
			{as("x(ab)y"), 2, 2, 4, 1, 5},
			{as("x(ab)y"), 4, 2, 4, 1, 5},
			{as("()"), 0, 1, 1, 0, 2},
			{as("()"), 1, 1, 1, 0, 2},
			{as("(a(b)c)"), 3, 3, 4, 2, 5},
			{as("(a(b)c)"), 2, 3, 4, 2, 5},
			{as("(a(b)c)"), 4, 3, 4, 2, 5},
			{as("(a(b)c)"), 1, 1, 6, 0, 7},
			{as("(a(b)c)"), 5, 1, 6, 0, 7},
			{as("(a(b)c)"), 6, 1, 6, 0, 7},
			// Those without a partner are no pairs.
			{as("(a(b)"), 3, 3, 4, 2, 5},
			{as("a)(b)"), 3, 3, 4, 2, 5},
			{as("(a)b)"), 1, 1, 2, 0, 3},
		})
		for _, test := range []told{
			{s: as("x(ab)y"), k: 0},
			{s: as("x(ab)y"), k: 5},
			{s: as("(a)b(c)"), k: 3},
			{s: as("(a(b)"), k: 1},
			{s: as("(a)b)"), k: 3},
			{s: as(")a("), k: 1},
			{s: as("(a"), k: 1},
			{s: as("a)"), k: 0},
			{s: "a<b>c", k: 2},
			{s: "", k: 0},
		} {
			for _, key := range of(kind) {
				checkError(t, of(test.s), test.k, key, api.ErrNone)
			}
		}
	}
}

// A kind of bracket is not seen by the others.
func TestKindsOfBrackets(t *testing.T) {
	checkTold(t, "()", []told{
		{"([a)b]", 2, 1, 3, 0, 4},
		{"(a[b]c)", 3, 1, 6, 0, 7},
		{"(a]b)", 3, 1, 4, 0, 5},
	})
	checkTold(t, "[]", []told{
		{"([a)b]", 2, 2, 5, 1, 6},
		{"([a)b]", 4, 2, 5, 1, 6},
	})
	checkError(t, of("([a)b]"), 0, '[', api.ErrNone)
	checkError(t, of("([a)b]"), 4, ')', api.ErrNone)
	checkError(t, of("(a]"), 1, '(', api.ErrNone)
	checkError(t, of("(a)[b]"), 1, '{', api.ErrNone)
}

func TestQuotes(t *testing.T) {
	for _, sign := range []string{`"`, `'`, "\x60"} {
		as := func(s string) string { return strings.ReplaceAll(s, "*", sign) }
		checkTold(t, sign, []told{
			{as("x*ab*y"), 1, 2, 4, 1, 5},
			{as("x*ab*y"), 3, 2, 4, 1, 5},
			{as("x*ab*y"), 4, 2, 4, 1, 5},
			// A pair behind the place is looked for, too.
			{as("x*ab*y"), 0, 2, 4, 1, 5},
			{as("**"), 0, 1, 1, 0, 2},
			{as("**"), 1, 1, 1, 0, 2},
			{as("*a*b*c*"), 2, 1, 2, 0, 3},
			// What stands from one pair to the next is no thing of its own.
			{as("*a*b*c*"), 3, 5, 6, 4, 7},
			{as("*a*b*c*"), 6, 5, 6, 4, 7},
			{as("*a*b*c"), 1, 1, 2, 0, 3},
			// Nothing makes a sign other than it is.
			{as(`*a\*b`), 1, 1, 3, 0, 4},
		})
		for _, test := range []told{
			{s: as("x*ab*y"), k: 5},
			{s: as("*a*b*c"), k: 3},
			{s: as("*a*b*c"), k: 5},
			{s: as("*a"), k: 0},
			{s: as("a*"), k: 1},
			{s: "abc", k: 1},
			{s: "", k: 0},
		} {
			checkError(t, of(test.s), test.k, int(sign[0]), api.ErrNone)
		}
	}
}

// Only the very sign of the key is taken.
func TestKindsOfQuotes(t *testing.T) {
	checkTold(t, `"`, []told{{`"a'b"c'`, 2, 1, 4, 0, 5}})
	checkTold(t, `'`, []told{{`"a'b"c'`, 3, 3, 6, 2, 7}})
	checkError(t, of("\"a'"), 1, '"', api.ErrNone)
	checkError(t, of("\x60a'"), 1, '\'', api.ErrNone)
	checkError(t, of("\x60a'"), 1, 96, api.ErrNone)
	checkError(t, []int{0x201c, 'a', 0x201d}, 1, '"', api.ErrNone)
}

func TestAllShortLines(t *testing.T) {
	var grow func(l, signs []int, most int)
	grow = func(l, signs []int, most int) {
		checkLine(t, l)
		if len(l) == most {
			return
		}
		for _, c := range signs {
			grow(append(slices.Clone(l), c), signs, most)
		}
	}
	grow(nil, of(" \ta-()["), 4)
	grow(nil, of(" a-"), 7)
	grow(nil, of("()x"), 7)
	grow(nil, of("[]{}"), 5)
	grow(nil, of("\"'\x60"), 6)
	grow(nil, of("\"x"), 9)
}

func TestLongerLines(t *testing.T) {
	r := rand.New(rand.NewSource(8))
	for _, signs := range []string{"  \taabbc_9ä--+.", "  ab-(())[]{}", "ab  \"'\x60", "  \tab_ä-()()[]{}\"'\x60"} {
		for range 100 {
			l := make([]int, r.Intn(60))
			for at := range l {
				l[at] = of(signs)[r.Intn(len(of(signs)))]
			}
			checkLine(t, l)
		}
	}
}

func TestAnyNumberIsOne(t *testing.T) {
	const most, least = math.MaxInt, math.MinInt
	checkLine(t, []int{32 + 1<<32, most, least, -1, 32, '(' + 1<<32, '(', ')' - 1<<32, most, 9, least, ')', 0x110000, 0,
		'"' + 1<<8, '"', 32 - 1<<32, '"' - 1<<32, '"', '\'' + 1<<32, 'a' + 1<<8, '\'', 9, '\''})
}

func TestOtherKeys(t *testing.T) {
	others := []int{math.MinInt, math.MaxInt, 0x110000, api.Bad, 0x201c}
	for c := -300; c <= 300; c++ {
		if c < 0 || !strings.ContainsRune(keys, rune(c)) {
			others = append(others, c)
		}
	}
	// Numbers that only some of their bits tell from a key.
	for _, c := range of(keys) {
		others = append(others, -c, c+1<<8, c+1<<16, c+1<<32, c-1<<32, c+math.MinInt)
	}
	for _, key := range others {
		for _, l := range [][]int{nil, {'a'}, of("(<a b>)"), {key}, {key, 'a', key}} {
			checkError(t, l, 0, key, api.ErrKey)
			checkError(t, l, max(0, len(l)-1), key, api.ErrKey)
		}
	}
}

func TestEmptyLine(t *testing.T) {
	for _, l := range [][]int{nil, {}, of("(a)")[:0]} {
		for _, key := range of(keys) {
			checkError(t, l, 0, key, api.ErrNone)
			checkError(t, l, 1, key, api.ErrArg)
			checkError(t, l, -1, key, api.ErrArg)
		}
	}
}

// A place that is none is told ahead of a key that is none.
func TestPlacesThatAreNone(t *testing.T) {
	for _, s := range []string{"", "a", "(\"a\")", "ab (c) d"} {
		l := of(s)
		for _, key := range of(keys + "qx\x00") {
			for _, k := range []int{math.MinInt, -2, -1, max(1, len(l)), len(l) + 1, api.MaxText, math.MaxInt} {
				checkError(t, l, k, key, api.ErrArg)
			}
		}
	}
}

func TestRoomForSoManyNumbers(t *testing.T) {
	const n = api.MaxText
	for _, s := range []string{
		strings.Repeat("a ", n/2),
		strings.Repeat(" ", n),
		strings.Repeat("a", n-1) + " ",
		strings.Repeat("(", n/2) + strings.Repeat(")", n/2),
		strings.Repeat("'", n),
		"\"" + strings.Repeat("-", n-2) + "\"",
	} {
		l := of(s)
		for _, key := range of(keys) {
			for _, k := range []int{0, 1, n/2 - 1, n / 2, n - 2, n - 1} {
				checkOf(t, l, k, false, key, wantOf(l, k, false, key))
				checkOf(t, l, k, true, key, wantOf(l, k, true, key))
			}
			checkError(t, l, n, key, api.ErrArg)
		}
		checkError(t, l, 0, 'q', api.ErrKey)
	}
}

// A line that is too long is told ahead of all else.
func TestTooManyNumbers(t *testing.T) {
	for _, n := range []int{api.MaxText + 1, 9000} {
		l := make([]int, n)
		for _, key := range of(keys + "q") {
			for _, k := range []int{math.MinInt, -1, 0, n - 1, n, math.MaxInt} {
				checkError(t, l, k, key, api.ErrLarge)
			}
		}
	}
}

// What stands in the memory ahead of a line and behind it is not seen.
func TestWhatIsHandedInStaysAsItWas(t *testing.T) {
	all := of("x \"(ab-'c) \"x' y")
	want := slices.Clone(all)
	for from := range all {
		for to := from; to <= len(all); to++ {
			checkLine(t, all[from:to])
			checkError(t, all[from:to], 0, 'q', api.ErrKey)
		}
	}
	if !slices.Equal(all, want) {
		t.Errorf("%v", all)
	}
}

// What is changed in a line behind a call is seen by the next call.
func TestNothingIsKeptFromCallToCall(t *testing.T) {
	l := of("ab (\"cd\") e")
	for range 2 {
		for at := range l {
			was := l[at]
			for _, c := range of(" x(\"") {
				l[at] = c
				checkLine(t, l)
				checkError(t, make([]int, 5000), 0, 'w', api.ErrLarge)
			}
			l[at] = was
			checkLine(t, l)
		}
	}
}
