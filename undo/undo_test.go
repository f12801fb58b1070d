package undo_test

import (
	"errors"
	"fmt"
	"math"
	"math/rand"
	"slices"
	"sync"
	"testing"
	"unsafe"

	"fairhand/api"
	"fairhand/splice"
	"fairhand/undo"
)

// The calls are as the document lists them, and a history has nothing beside
// its two lists.
var (
	_ func(undo.History[string], int, string) undo.History[string]            = undo.Do[string]
	_ func(undo.History[string], string) (undo.History[string], string, bool) = undo.Back[string]
	_ func(undo.History[string], string) (undo.History[string], string, bool) = undo.Again[string]
	_                                                                         = struct{ Past, Future []string }(undo.History[string]{})
)

// odd are numbers of things that nobody has room for, and some below 1.
var odd = []int{math.MinInt, math.MinInt + 1, math.MinInt + 2, math.MinInt32, -1 << 32, -31, -30, -2, -1,
	1 << 16, math.MaxInt32, 1 << 32, 1<<32 + 1, math.MaxInt - 2, math.MaxInt - 1, math.MaxInt}

// numbers: so many, no two alike, from first on.
func numbers(first, count int) []int {
	var l []int
	for i := range count {
		l = append(l, first+i)
	}
	return l
}

// of is a history of those things.
func of[T any](past, future []T) undo.History[T] {
	return undo.History[T]{Past: past, Future: future}
}

// brief keeps what is told of long lists to some of it.
func brief(list any) string {
	s := fmt.Sprint(list)
	return s[:min(len(s), 300)]
}

func same[T comparable](a, b undo.History[T]) bool {
	return slices.Equal(a.Past, b.Past) && slices.Equal(a.Future, b.Future)
}

// told is all that Back or Again tell.
type told[T any] struct {
	h     undo.History[T]
	thing T
	ok    bool
}

func back[T any](h undo.History[T], now T) told[T] {
	h, thing, ok := undo.Back(h, now)
	return told[T]{h, thing, ok}
}

func again[T any](h undo.History[T], now T) told[T] {
	h, thing, ok := undo.Again(h, now)
	return told[T]{h, thing, ok}
}

// wantDo puts all that was behind each other, and drives out the oldest one
// as long as there are too many.
func wantDo[T any](h undo.History[T], most int, now T) undo.History[T] {
	var past []T
	for _, x := range h.Past {
		past = append(past, x)
	}
	past = append(past, now)
	for len(past) > 0 && len(past) > most {
		past = past[1:]
	}
	return undo.History[T]{Past: past}
}

// newestMoved is from without its newest thing, and to with now behind it.
func newestMoved[T any](from, to []T, now T) (left, more []T, newest T, ok bool) {
	for _, x := range to {
		more = append(more, x)
	}
	if len(from) == 0 {
		return nil, more, now, false
	}
	for at, x := range from {
		if at < len(from)-1 {
			left = append(left, x)
		}
		newest = x
	}
	return left, append(more, now), newest, true
}

func wantBack[T any](h undo.History[T], now T) told[T] {
	past, future, thing, ok := newestMoved(h.Past, h.Future, now)
	return told[T]{of(past, future), thing, ok}
}

func wantAgain[T any](h undo.History[T], now T) told[T] {
	future, past, thing, ok := newestMoved(h.Future, h.Past, now)
	return told[T]{of(past, future), thing, ok}
}

// checkDo answers what Do does.
func checkDo[T comparable](t *testing.T, h undo.History[T], most int, now T) undo.History[T] {
	t.Helper()
	want := wantDo(h, most, now)
	got := undo.Do(h, most, now)
	if !same(got, want) {
		t.Fatalf("Do(%s, %d, %v): %s, not %s", brief(h), most, now, brief(got), brief(want))
	}
	return got
}

func checkTold[T comparable](t *testing.T, call string, h undo.History[T], now T, got, want told[T]) {
	t.Helper()
	if !same(got.h, want.h) || got.thing != want.thing || got.ok != want.ok {
		t.Fatalf("%s(%s, %v): %s, not %s", call, brief(h), now, brief(got), brief(want))
	}
}

// checkBack answers what Back tells.
func checkBack[T comparable](t *testing.T, h undo.History[T], now T) told[T] {
	t.Helper()
	got := back(h, now)
	checkTold(t, "Back", h, now, got, wantBack(h, now))
	return got
}

// checkAgain answers what Again tells.
func checkAgain[T comparable](t *testing.T, h undo.History[T], now T) told[T] {
	t.Helper()
	got := again(h, now)
	checkTold(t, "Again", h, now, got, wantAgain(h, now))
	return got
}

func TestDo(t *testing.T) {
	for _, test := range []struct {
		h    undo.History[string]
		most int
		now  string
		want []string
	}{
		{of[string](nil, nil), 1, "a", []string{"a"}},
		{of[string](nil, nil), 2, "a", []string{"a"}},
		{of([]string{"a"}, nil), 2, "b", []string{"a", "b"}},
		{of([]string{"a"}, nil), 30, "b", []string{"a", "b"}},
		// The oldest ones go.
		{of([]string{"a"}, nil), 1, "b", []string{"b"}},
		{of([]string{"a", "b"}, nil), 2, "c", []string{"b", "c"}},
		{of([]string{"a", "b", "c"}, nil), 2, "d", []string{"c", "d"}},
		{of([]string{"a", "b", "c", "d"}, nil), 1, "e", []string{"e"}},
		{of([]string{"a", "b", "c", "d"}, nil), 4, "e", []string{"b", "c", "d", "e"}},
		{of([]string{"a", "b", "c", "d"}, nil), 5, "e", []string{"a", "b", "c", "d", "e"}},
		// Things that are alike are as many things.
		{of([]string{"a", "a"}, nil), 3, "a", []string{"a", "a", "a"}},
		{of([]string{"", ""}, nil), 3, "", []string{"", "", ""}},
		{of([]string{"a", "a"}, nil), 2, "a", []string{"a", "a"}},
		// None stays of a most below 1, not even now.
		{of([]string{"a", "b"}, nil), 0, "c", nil},
		{of([]string{"a", "b"}, nil), -1, "c", nil},
		{of([]string{"a", "b"}, nil), -2, "c", nil},
		{of([]string{"a", "b"}, nil), math.MinInt, "c", nil},
		{of[string](nil, nil), 0, "c", nil},
		// There is no Future any more.
		{of([]string{"a"}, []string{"f"}), 2, "b", []string{"a", "b"}},
		{of(nil, []string{"f", "g"}), 2, "b", []string{"b"}},
		{of([]string{"a"}, []string{"f"}), 0, "b", nil},
		{of([]string{}, []string{"f"}), -5, "b", nil},
	} {
		got := checkDo(t, test.h, test.most, test.now)
		if !same(got, of(test.want, nil)) {
			t.Errorf("Do(%q, %d, %q): %q, not %q", test.h, test.most, test.now, got, test.want)
		}
	}
}

func TestBackAndAgain(t *testing.T) {
	for _, test := range []struct {
		from, to []string
		thing    string
		ok       bool
		left     []string
		more     []string
	}{
		{nil, nil, "now", false, nil, nil},
		{[]string{}, []string{}, "now", false, nil, nil},
		{nil, []string{"x"}, "now", false, nil, []string{"x"}},
		{nil, []string{"x", "y", "z"}, "now", false, nil, []string{"x", "y", "z"}},
		{[]string{"a"}, nil, "a", true, nil, []string{"now"}},
		{[]string{""}, nil, "", true, nil, []string{"now"}},
		{[]string{"now"}, nil, "now", true, nil, []string{"now"}},
		{[]string{"a", "b"}, nil, "b", true, []string{"a"}, []string{"now"}},
		{[]string{"a", "b", "c"}, nil, "c", true, []string{"a", "b"}, []string{"now"}},
		{[]string{"a", "b", "b"}, nil, "b", true, []string{"a", "b"}, []string{"now"}},
		{[]string{"a"}, []string{"x"}, "a", true, nil, []string{"x", "now"}},
		{[]string{"a", "b"}, []string{"x", "y"}, "b", true, []string{"a"}, []string{"x", "y", "now"}},
	} {
		h := of(test.from, test.to)
		want := told[string]{of(test.left, test.more), test.thing, test.ok}
		checkTold(t, "Back", h, "now", checkBack(t, h, "now"), want)
		h = of(test.to, test.from)
		want.h = of(test.more, test.left)
		checkTold(t, "Again", h, "now", checkAgain(t, h, "now"), want)
	}
}

// Whatever is in both lists, and whatever now is.
func TestAllShortHistories(t *testing.T) {
	mosts := slices.Concat(numbers(-3, 12), odd)
	for _, first := range []int{0, 1} { // things of which all are alike, then others
		for past := range 8 {
			for future := range 8 {
				h := of(make([]int, past), make([]int, future))
				for at := range h.Past {
					h.Past[at] = first * (10 + at)
				}
				for at := range h.Future {
					h.Future[at] = first * (20 + at)
				}
				for _, now := range []int{0, 5, 10, 20, 10 + past - 1, 20 + future - 1, math.MinInt, math.MaxInt} {
					for _, most := range mosts {
						checkDo(t, h, most, now)
					}
					checkBack(t, h, now)
					checkAgain(t, h, now)
				}
			}
		}
	}
}

func TestMostOfAnySize(t *testing.T) {
	for _, past := range []int{0, 1, 2, 29, 30, 31, 100} {
		h := of(numbers(1, past), numbers(-50, 3))
		for most := -past - 3; most <= past+3; most++ {
			if got := checkDo(t, h, most, 0); len(got.Past) != min(max(most, 0), past+1) {
				t.Fatalf("%d of %d: %v", most, past, got)
			}
		}
		for _, most := range odd {
			if got := checkDo(t, h, most, 0); len(got.Past) != 0 && most < 1 || len(got.Past) != past+1 && most > past {
				t.Fatalf("%d of %d: %v", most, past, got)
			}
		}
	}
}

func TestLongHistories(t *testing.T) {
	h := of(numbers(0, 100000), numbers(-100000, 70000))
	for _, most := range []int{-1, 0, 1, 2, 30, 4096, 65535, 65536, 65537, 99999, 100000, 100001, 100002, math.MaxInt} {
		checkDo(t, h, most, 7)
	}
	checkBack(t, h, 7)
	checkAgain(t, h, 7)
	// Neither list has an end.
	for range 100 {
		h = checkBack(t, h, 7).h
	}
	if len(h.Past) != 99900 || len(h.Future) != 70100 {
		t.Error(len(h.Past), len(h.Future))
	}
	for range 300 {
		h = checkAgain(t, h, 7).h
	}
	if len(h.Past) != 100200 || len(h.Future) != 69800 {
		t.Error(len(h.Past), len(h.Future))
	}
}

// So many steps back, and as many on again, and nothing has changed.
func TestAgainGoesWhereBackCameFrom(t *testing.T) {
	for past := range 10 {
		for future := range 4 {
			start, begin := of(numbers(1, past), numbers(50, future)), 99
			for steps := range past + 1 {
				h, now := start, begin
				for range steps {
					got := checkBack(t, h, now)
					h, now = got.h, got.thing
				}
				if steps > 0 && now != 1+past-steps || len(h.Past) != past-steps {
					t.Fatalf("%d steps back: %d, %v", steps, now, h)
				}
				for range steps {
					got := checkAgain(t, h, now)
					h, now = got.h, got.thing
				}
				if !same(h, start) || now != begin {
					t.Fatalf("%d steps: %d, %v, not %v", steps, now, h, start)
				}
			}
			for steps := range future + 1 {
				h, now := start, begin
				for range steps {
					got := checkAgain(t, h, now)
					h, now = got.h, got.thing
				}
				for range steps {
					got := checkBack(t, h, now)
					h, now = got.h, got.thing
				}
				if !same(h, start) || now != begin {
					t.Fatalf("%d steps: %d, %v, not %v", steps, now, h, start)
				}
			}
		}
	}
}

// All that there is at one time is a row of things, of which one is now.
func TestManySteps(t *testing.T) {
	rnd := rand.New(rand.NewSource(36))
	for _, most := range []int{-1, 0, 1, 2, 3, 7, api.MaxUndo} {
		row, at, next := []int{0}, 0, 1
		h, now := undo.History[int]{}, 0
		for range 5000 {
			var ok, wanted bool
			switch rnd.Intn(3) {
			case 0:
				h, now = checkDo(t, h, most, now), next
				row = append(row[:at+1], next)
				first := len(row) - 1 - min(len(row)-1, max(most, 0))
				row = row[first:]
				at = len(row) - 1
				next++
				ok, wanted = true, true
			case 1:
				got := checkBack(t, h, now)
				h, now, ok = got.h, got.thing, got.ok
				if wanted = at > 0; wanted {
					at--
				}
			case 2:
				got := checkAgain(t, h, now)
				h, now, ok = got.h, got.thing, got.ok
				if wanted = at < len(row)-1; wanted {
					at++
				}
			}
			future := slices.Clone(row[at+1:])
			slices.Reverse(future)
			if now != row[at] || ok != wanted || !same(h, of(row[:at], future)) {
				t.Fatalf("%d, %v, %v: not %v at %d", now, ok, h, row, at)
			}
		}
	}
}

// A line with its place is as it was, to the character.
func TestLinesAreAsTheyWere(t *testing.T) {
	rnd := rand.New(rand.NewSource(37))
	equal := func(a, b api.Line) bool { return a.At == b.At && slices.Equal(a.Text, b.Text) }
	h, now := undo.History[api.Line]{}, api.Line{}
	were := []api.Line{now}
	for step := range api.MaxUndo {
		h = undo.Do(h, api.MaxUndo, now)
		at := rnd.Intn(len(now.Text) + 1)
		text, err := splice.Apply(now.Text, []api.Splice{{From: at, To: at, Text: numbers(100*step, 1+step%4)}})
		if err != api.OK {
			t.Fatal(err)
		}
		now = api.Line{Text: text, At: at}
		were = append(were, now)
	}
	for step := api.MaxUndo - 1; step >= 0; step-- {
		var ok bool
		if h, now, ok = undo.Back(h, now); !ok || !equal(now, were[step]) {
			t.Fatalf("back to %d: %v, not %v", step, now, were[step])
		}
	}
	if _, l, ok := undo.Back(h, now); ok || !equal(l, now) {
		t.Fatalf("behind the first one: %v %v", l, ok)
	}
	for step := 1; step <= api.MaxUndo; step++ {
		var ok bool
		if h, now, ok = undo.Again(h, now); !ok || !equal(now, were[step]) {
			t.Fatalf("again to %d: %v, not %v", step, now, were[step])
		}
	}
	if _, l, ok := undo.Again(h, now); ok || !equal(l, now) {
		t.Fatalf("beyond the last one: %v %v", l, ok)
	}
}

// checkThings: four things of any type go to and fro.
func checkThings[T any](t *testing.T, equal func(a, b T) bool, a, b, c, d T) {
	t.Helper()
	check := func(got told[T], past, future []T, thing T, ok bool) undo.History[T] {
		t.Helper()
		if !slices.EqualFunc(got.h.Past, past, equal) || !slices.EqualFunc(got.h.Future, future, equal) || !equal(got.thing, thing) || got.ok != ok {
			t.Fatalf("%T: %v, not %v, %v, %v, %v", a, got, past, future, thing, ok)
		}
		return got.h
	}
	done := func(h undo.History[T], now T) told[T] { return told[T]{undo.Do(h, 2, now), now, true} }
	none := undo.History[T]{}
	check(back(none, a), nil, nil, a, false)
	check(again(none, b), nil, nil, b, false)
	h := check(done(none, a), []T{a}, nil, a, true)
	h = check(done(h, b), []T{a, b}, nil, b, true)
	h = check(done(h, c), []T{b, c}, nil, c, true)
	check(again(h, d), []T{b, c}, nil, d, false)
	h = check(back(h, d), []T{b}, []T{d}, c, true)
	h = check(back(h, c), nil, []T{d, c}, b, true)
	check(back(h, a), nil, []T{d, c}, a, false)
	h = check(again(h, b), []T{b}, []T{d}, c, true)
	check(done(h, a), []T{b, a}, nil, a, true)
	h = check(again(h, c), []T{b, c}, nil, d, true)
	if h = undo.Do(h, 0, a); len(h.Past) != 0 || len(h.Future) != 0 {
		t.Fatalf("%T: %v", a, h)
	}
}

func checkComparable[T comparable](t *testing.T, a, b, c, d T) {
	t.Helper()
	checkThings(t, func(a, b T) bool { return a == b }, a, b, c, d)
	// Things that are alike, and the zero value.
	var zero T
	checkThings(t, func(a, b T) bool { return a == b }, zero, zero, zero, zero)
	checkThings(t, func(a, b T) bool { return a == b }, a, zero, a, zero)
}

func TestThingsOfAnyType(t *testing.T) {
	type pair struct {
		name string
		at   *int
	}
	x, y := 1, 1
	checkComparable(t, 1, 2, 3, 4)
	checkComparable(t, "a", "b", "c", "d")
	checkComparable(t, true, false, true, false)
	checkComparable(t, uint8(1), 255, 0, 7)
	checkComparable(t, 1.5, math.Inf(1), -0.25, math.MaxFloat64)
	checkComparable(t, complex(1, 2), 2, 3i, 4)
	checkComparable(t, [3]int{1}, [3]int{2}, [3]int{0, 0, 1}, [3]int{3, 2, 1})
	checkComparable(t, struct{}{}, struct{}{}, struct{}{}, struct{}{})
	checkComparable(t, [0]int{}, [0]int{}, [0]int{}, [0]int{})
	checkComparable(t, &x, &y, nil, new(int))
	checkComparable(t, pair{"a", &x}, pair{"a", &y}, pair{}, pair{"b", nil})
	checkComparable(t, api.OK, api.ErrArg, api.ErrClash, api.Errno(-1))
	checkComparable[any](t, 1, "a", nil, &x)
	checkComparable[error](t, errors.New("a"), nil, errors.New("a"), errors.New("b"))
	checkComparable(t, make(chan int), nil, make(chan int), make(chan int, 1))
	checkComparable(t, api.Marks{1}, api.Marks{2}, api.Marks{}, api.Marks{25: 3})
	// A thing that is not even like itself.
	sameBits := func(a, b float64) bool { return math.Float64bits(a) == math.Float64bits(b) }
	checkThings(t, sameBits, math.NaN(), 0, math.Copysign(0, -1), math.NaN())
}

// A history keeps the things themselves, not copies of what they lead to.
func TestTheThingsThemselvesAreKept(t *testing.T) {
	memory := numbers(1, 10)
	sameList := func(a, b []int) bool {
		return unsafe.SliceData(a) == unsafe.SliceData(b) && len(a) == len(b) && cap(a) == cap(b) && (a == nil) == (b == nil)
	}
	checkThings(t, sameList, memory[:2], memory[2:2], nil, memory[5:9:9])
	checkThings(t, sameList, nil, []int{}, memory, memory[:0])
	sameLine := func(a, b api.Line) bool { return a.At == b.At && sameList(a.Text, b.Text) }
	checkThings(t, sameLine, api.Line{Text: memory[:3], At: 2}, api.Line{}, api.Line{Text: memory, At: -1}, api.Line{At: 7})
	sameHistory := func(a, b undo.History[int]) bool { return sameList(a.Past, b.Past) && sameList(a.Future, b.Future) }
	checkThings(t, sameHistory, of(memory[:2], memory[3:]), of(nil, memory), of(memory, nil), of[int](nil, nil))
	m, n := map[int]int{1: 1}, map[int]int{1: 1}
	sameMap := func(a, b map[int]int) bool { return fmt.Sprintf("%p", a) == fmt.Sprintf("%p", b) }
	checkThings(t, sameMap, m, nil, n, m)
	calls := []int{0, 0, 0, 0}
	call := func(at int) func() int { return func() int { calls[at]++; return at } }
	checkThings(t, func(a, b func() int) bool { return a() == b() }, call(0), call(1), call(2), call(3))
}

// No function among the things is called, and nothing that is kept is looked
// into: things that can't be held against each other are as good as others.
func TestThingsAreNotLookedInto(t *testing.T) {
	bad := func() { t.Error("called") }
	h := undo.Do(undo.Do(undo.History[any]{}, 5, any(bad)), 5, any([]int{1}))
	h, _, _ = undo.Back(h, any(map[string]func(){"a": bad}))
	h, _, _ = undo.Again(h, any(bad))
	if len(h.Past) != 2 || len(h.Future) != 0 {
		t.Error(h)
	}
	f := undo.Do(undo.History[func()]{}, 1, nil)
	f = undo.Do(f, 1, bad)
	f, last, ok := undo.Back(f, nil)
	if last == nil || !ok || len(f.Past) != 0 || len(f.Future) != 1 || f.Future[0] != nil {
		t.Error(f, ok)
	}
}

// laidOut has in both lists things with room behind them that others use: all
// of them stand in one memory.
func laidOut(past, future int) (memory []int, h undo.History[int]) {
	memory = numbers(1, 40)
	return memory, of(memory[3:3+past], memory[3+past/2:3+past/2+future])
}

// write writes into all the memory of an answer, list by list, and looks then
// whether another list has changed.
func write(t *testing.T, what string, lists [][]int) {
	t.Helper()
	for i, l := range lists {
		l = l[:cap(l)]
		for at := range l {
			l[at] = -100 - i
		}
	}
	for i, l := range lists {
		for _, c := range l[:cap(l)] {
			if c != -100-i {
				t.Fatalf("%s: list %d shares its memory", what, i)
			}
		}
	}
}

func TestWhatIsHandedInStaysAsItWas(t *testing.T) {
	for past := range 10 {
		for future := range 10 {
			memory, h := laidOut(past, future)
			was := slices.Clone(memory)
			var lists [][]int
			keep := func(h undo.History[int]) { lists = append(lists, h.Past, h.Future) }
			for most := -1; most < past+4; most++ {
				keep(checkDo(t, h, most, -1))
			}
			for range 2 {
				keep(checkDo(t, h, math.MaxInt, -1))
				keep(checkBack(t, h, -1).h)
				keep(checkAgain(t, h, -1).h)
			}
			// Both lists may be one and the same.
			twice := of(h.Past, h.Past)
			keep(checkDo(t, twice, past, -1))
			keep(checkBack(t, twice, -1).h)
			keep(checkAgain(t, twice, -1).h)
			write(t, fmt.Sprintf("%d and %d", past, future), lists)
			if !slices.Equal(memory, was) || !same(h, of(was[3:3+past], was[3+past/2:3+past/2+future])) {
				t.Fatalf("%d and %d: %v was %v", past, future, memory, was)
			}
			checkDo(t, h, past, -1)
			checkBack(t, h, -1)
			checkAgain(t, h, -1)
		}
	}
}

// What is changed in an answer is not seen in what it was made of, nor in what
// is made of it.
func TestHistoriesMadeOfHistoriesShareNothing(t *testing.T) {
	rnd := rand.New(rand.NewSource(2))
	h := undo.History[int]{}
	var lists, were [][]int
	for step := range 600 {
		switch rnd.Intn(4) {
		case 0, 1:
			h = undo.Do(h, 12, step)
		case 2:
			h, _, _ = undo.Back(h, step)
		case 3:
			h, _, _ = undo.Again(h, step)
		}
		lists = append(lists, h.Past, h.Future)
		were = append(were, slices.Clone(h.Past), slices.Clone(h.Future))
	}
	for i, l := range lists {
		if !slices.Equal(l, were[i]) {
			t.Fatalf("list %d: %v was %v", i, l, were[i])
		}
	}
	write(t, "made of each other", lists)
}

// What is told of nothing is no piece of what was handed in.
func TestNothingIsNoPieceOfWhatWasThere(t *testing.T) {
	memory := []int{1, 2, 3}
	for _, h := range []undo.History[int]{of(memory[1:1], memory[1:1]), of(memory[1:2], memory[1:1]), of(memory[1:1], memory[1:2])} {
		a, b, c := undo.Do(h, 0, 7), undo.Do(h, 1, 7), undo.Do(h, 2, 7)
		d, _, _ := undo.Back(h, 7)
		e, _, _ := undo.Again(h, 7)
		for i, h := range []undo.History[int]{a, b, c, d, e} {
			for _, l := range [][]int{h.Past, h.Future} {
				if p := unsafe.SliceData(l); p == &memory[0] || p == &memory[1] || p == &memory[2] {
					t.Errorf("%d: %v has the memory of another", i, l)
				}
			}
		}
	}
	if !slices.Equal(memory, []int{1, 2, 3}) {
		t.Error(memory)
	}
}

// A thing that is not in a list any more is not in the memory behind it, either.
func TestWhatGoesIsGone(t *testing.T) {
	x := func(count int) (l []*int) {
		for i := range count {
			l = append(l, &[]int{i}[0])
		}
		return l
	}
	for past := range 20 {
		for future := range 20 {
			h := of(x(past), x(future))
			check := func(got undo.History[*int]) {
				t.Helper()
				for _, l := range [][]*int{got.Past, got.Future} {
					for _, p := range l[len(l):cap(l)] {
						if p != nil {
							t.Fatalf("%d and %d: %v is still there", past, future, *p)
						}
					}
				}
			}
			for most := range past + 3 {
				check(undo.Do(h, most, new(int)))
			}
			check(back(h, new(int)).h)
			check(again(h, new(int)).h)
		}
	}
}

// What is changed behind a call is seen by the next call, and nothing else is.
func TestNothingIsKeptFromCallToCall(t *testing.T) {
	h := of(numbers(1, 5), numbers(50, 4))
	for step := range 50 {
		h.Past[step%5] += 7
		h.Future[step%4] -= 9
		checkDo(t, h, step%8, step)
		checkDo(t, undo.History[int]{}, 3, -step)
		checkBack(t, undo.History[int]{}, step)
		checkAgain(t, undo.History[int]{}, step)
		checkBack(t, h, step)
		checkAgain(t, h, step)
		checkBack(t, h, -step)
		checkAgain(t, h, -step)
		checkDo(t, h, 5, -step)
	}
}

// One history may be asked by many at one time, as nothing of it is changed.
func TestManyAskOneHistory(t *testing.T) {
	_, h := laidOut(9, 8)
	wantedDo, wantedBack, wantedAgain := wantDo(h, 6, -1), wantBack(h, -1), wantAgain(h, -1)
	wrong := make([]int, 8)
	var hands sync.WaitGroup
	for hand := range wrong {
		hands.Go(func() {
			for range 500 {
				d, b, a := undo.Do(h, 6, -1), back(h, -1), again(h, -1)
				if !same(d, wantedDo) || !same(b.h, wantedBack.h) || !same(a.h, wantedAgain.h) {
					wrong[hand]++
				}
			}
		})
	}
	hands.Wait()
	for hand, count := range wrong {
		if count > 0 {
			t.Errorf("hand %d: %d times", hand, count)
		}
	}
}
