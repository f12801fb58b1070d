package dyck_test

import (
	"math"
	"math/rand"
	"slices"
	"strings"
	"testing"

	"fairhand/api"
	"fairhand/dyck"
)

// kinds of brackets: the one that opens, the one that closes.
var kinds = []string{"()", "[]", "{}"}

// of a text: its bytes as numbers.
func of(s string) []int {
	var l []int
	for i := range len(s) {
		l = append(l, int(s[i]))
	}
	return l
}

// pairsOf goes back from each bracket that closes, kind by kind, as the
// document says it.
func pairsOf(s string) []int {
	pairs := slices.Repeat([]int{-1}, len(s))
	for _, kind := range kinds {
		for at := range len(s) {
			if s[at] != kind[1] {
				continue
			}
			for from := at - 1; from >= 0; from-- {
				if s[from] == kind[0] && pairs[from] < 0 {
					pairs[at], pairs[from] = from, at
					break
				}
			}
		}
	}
	return pairs
}

// rightOf takes pairs that have nothing within them away till there is none.
func rightOf(s string) bool {
	s = strings.Map(func(c rune) rune {
		if strings.ContainsRune("()[]{}", c) {
			return c
		}
		return -1
	}, s)
	for {
		less := s
		for _, kind := range kinds {
			less = strings.ReplaceAll(less, kind, "")
		}
		if less == s {
			return s == ""
		}
		s = less
	}
}

// eachText goes through all texts of up to most of those signs.
func eachText(signs string, most int, yield func(string)) {
	var grow func(s string)
	grow = func(s string) {
		yield(s)
		if len(s) == most {
			return
		}
		for _, c := range signs {
			grow(s + string(c))
		}
	}
	grow("")
}

func check(t *testing.T, s string) {
	t.Helper()
	if got, err := dyck.Pairs(of(s)); !slices.Equal(got, pairsOf(s)) || err != api.OK {
		t.Fatalf("Pairs of %q: %v %v", s, got, err)
	}
	if got, err := dyck.Right(of(s)); got != rightOf(s) || err != api.OK {
		t.Fatalf("Right of %q: %v %v", s, got, err)
	}
}

func TestKind(t *testing.T) {
	for _, kind := range kinds {
		opens, closes := int(kind[0]), int(kind[1])
		if c, shut := dyck.Kind(opens); c != closes || shut {
			t.Errorf("Kind of %q: %d %v", kind[0], c, shut)
		}
		if c, shut := dyck.Kind(closes); c != opens || !shut {
			t.Errorf("Kind of %q: %d %v", kind[1], c, shut)
		}
	}
}

func TestKindOfOthers(t *testing.T) {
	others := []int{math.MinInt, math.MaxInt, -1, '<', '>', 0x2018, 0xff08, 0xff09, 0x10ffff, 0x110000}
	for c := -1000; c <= 1000; c++ {
		if c < 0 || !strings.ContainsRune("()[]{}", rune(c)) {
			others = append(others, c)
		}
	}
	// Numbers that only some of their bits tell from a bracket.
	for _, c := range of("()[]{}") {
		others = append(others, -c, c+1<<8, c+1<<16, c+1<<32, c-1<<32, c+math.MinInt)
	}
	for _, c := range others {
		if got, shut := dyck.Kind(c); got != 0 || shut {
			t.Errorf("Kind of %d: %d %v", c, got, shut)
		}
	}
}

func TestPairs(t *testing.T) {
	for _, test := range []struct {
		s    string
		want []int
	}{
		{"", nil},
		{"a", []int{-1}},
		{"()", []int{1, 0}},
		{"[]", []int{1, 0}},
		{"{}", []int{1, 0}},
		{"(())", []int{3, 2, 1, 0}},
		{"()()", []int{1, 0, 3, 2}},
		{"a(b)c", []int{-1, 3, -1, 1, -1}},
		// There is none to be its partner.
		{"(", []int{-1}},
		{")", []int{-1}},
		{")(", []int{-1, -1}},
		{"(()", []int{-1, 2, 1}},
		{"())", []int{1, 0, -1}},
		{"())()", []int{1, 0, -1, 4, 3}},
		// The last one that has no partner yet, not the last one.
		{"(()(", []int{-1, 2, 1, -1}},
		{"(()))", []int{3, 2, 1, 0, -1}},
		{"(()())", []int{5, 2, 1, 4, 3, 0}},
		// The kinds do not see each other.
		{"([)]", []int{2, 3, 0, 1}},
		{"(]", []int{-1, -1}},
		{"({)}[", []int{2, 3, 0, 1, -1}},
		{"([{)]}", []int{3, 4, 5, 0, 1, 2}},
		{"(]})", []int{3, -1, -1, 0}},
		// Not brackets here.
		{"<>", []int{-1, -1}},
		{"\"'`", []int{-1, -1, -1}},
	} {
		if got, err := dyck.Pairs(of(test.s)); !slices.Equal(got, test.want) || err != api.OK {
			t.Errorf("Pairs of %q: %v %v", test.s, got, err)
		}
	}
}

func TestRight(t *testing.T) {
	for _, s := range []string{"", "a", "ab<", "()", "[]", "{}", "()[]{}", "([{}])", "(a[b]c)d", "(()())", "{{}[()]}", "><"} {
		if right, err := dyck.Right(of(s)); !right || err != api.OK {
			t.Errorf("Right of %q: %v %v", s, right, err)
		}
	}
	for _, s := range []string{"(", "[", "{", ")", "]", "}", ")(", "(]", "([)]", "{(})", "(()", "())", "()]", "[()", "(a", "a}", "([]", "()("} {
		if right, err := dyck.Right(of(s)); right || err != api.OK {
			t.Errorf("Right of %q: %v %v", s, right, err)
		}
	}
}

func TestAllShortTexts(t *testing.T) {
	each := func(s string) { check(t, s) }
	eachText("()[]{}a", 6, each)
	eachText("()[]", 8, each)
	eachText("()", 14, each)
}

// nested has some n pairs, each within others or beside them, so that it is
// right.
func nested(r *rand.Rand, n int) string {
	if n == 0 {
		return strings.Repeat("x", r.Intn(2))
	}
	kind := kinds[r.Intn(len(kinds))]
	within := r.Intn(n)
	return kind[:1] + nested(r, within) + kind[1:] + nested(r, n-1-within)
}

func TestLongerTexts(t *testing.T) {
	r := rand.New(rand.NewSource(4))
	for range 400 {
		s := nested(r, r.Intn(80))
		if !rightOf(s) {
			t.Fatalf("%q is not right", s)
		}
		check(t, s)
		wrong := []byte(s + "x")
		for range 1 + r.Intn(3) {
			wrong[r.Intn(len(wrong))] = "()[]{}x"[r.Intn(7)]
		}
		check(t, string(wrong))
	}
}

func TestAnyNumberIsOne(t *testing.T) {
	const most, least = math.MaxInt, math.MinInt
	l := []int{most, '(', least, -'(', '(' + 1<<32, -')', ')' + 1<<8, ')' - 1<<32, ')', 0, -1}
	if got, err := dyck.Pairs(l); !slices.Equal(got, []int{-1, 8, -1, -1, -1, -1, -1, -1, 1, -1, -1}) || err != api.OK {
		t.Errorf("Pairs: %v %v", got, err)
	}
	if right, err := dyck.Right(l); !right || err != api.OK {
		t.Errorf("Right: %v %v", right, err)
	}
}

func TestRoomForSoManyNumbers(t *testing.T) {
	half := api.MaxText / 2
	for _, s := range []string{
		strings.Repeat("(", api.MaxText),
		strings.Repeat(")", api.MaxText),
		strings.Repeat("a", api.MaxText),
		strings.Repeat("[]", half),
		strings.Repeat("{", half) + strings.Repeat("}", half),
		strings.Repeat("([)]", half/2),
	} {
		got, err := dyck.Pairs(of(s))
		if !slices.Equal(got, pairsOf(s)) || err != api.OK {
			t.Errorf("Pairs of %q..: %v", s[:4], err)
		}
		if right, err := dyck.Right(of(s)); right != rightOf(s) || err != api.OK {
			t.Errorf("Right of %q..: %v %v", s[:4], right, err)
		}
	}
}

func TestTooManyNumbers(t *testing.T) {
	for _, sign := range []string{"a", "(", ")"} {
		for _, n := range []int{api.MaxText + 1, api.MaxText + 2, 3 * api.MaxText} {
			l := of(strings.Repeat(sign, n))
			if got, err := dyck.Pairs(l); len(got) != 0 || err != api.ErrLarge {
				t.Errorf("Pairs of %d %q: %d %v", n, sign, len(got), err)
			}
			if right, err := dyck.Right(l); right || err != api.ErrLarge {
				t.Errorf("Right of %d %q: %v %v", n, sign, right, err)
			}
		}
	}
}

func TestWhatIsHandedInStaysAsItWas(t *testing.T) {
	for _, s := range []string{"", "(a)", "([)]", ")}(", "((("} {
		all := slices.Concat([]int{'(', '('}, of(s), []int{')', ')', ')', ')'})
		want := slices.Clone(all)
		l := all[2 : 2+len(s)]
		pairs, _ := dyck.Pairs(l)
		dyck.Right(l)
		if !slices.Equal(pairs, pairsOf(s)) {
			t.Errorf("Pairs of %q: %v", s, pairs)
		}
		pairs = pairs[:cap(pairs)]
		for i := range pairs {
			pairs[i] = -7
		}
		if !slices.Equal(all, want) {
			t.Errorf("%q: %v", s, all)
		}
	}
}

func TestAnswersAreNewMemory(t *testing.T) {
	l := of("(a[)])")
	first, _ := dyck.Pairs(l)
	second, _ := dyck.Pairs(l)
	want := slices.Clone(first)
	spare := first[:cap(first)]
	for i := range spare {
		spare[i] = -7
	}
	if third, _ := dyck.Pairs(l); !slices.Equal(second, want) || !slices.Equal(third, want) {
		t.Errorf("%v %v, not %v", second, third, want)
	}
}

// What waited in one call is not there in the next one, and what is changed in
// a list behind a call is seen by the next call.
func TestNothingIsKeptFromCallToCall(t *testing.T) {
	l := of("((")
	for range 3 {
		if got, _ := dyck.Pairs(l); !slices.Equal(got, []int{-1, -1}) {
			t.Error(got)
		}
		if right, _ := dyck.Right(l); right {
			t.Error(right)
		}
		if got, _ := dyck.Pairs(of("))")); !slices.Equal(got, []int{-1, -1}) {
			t.Error(got)
		}
		if right, _ := dyck.Right(of("))")); right {
			t.Error(right)
		}
		l[1] = ')'
		if got, _ := dyck.Pairs(l); !slices.Equal(got, []int{1, 0}) {
			t.Error(got)
		}
		if right, _ := dyck.Right(l); !right {
			t.Error(right)
		}
		l[1] = '('
	}
}
