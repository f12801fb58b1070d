package splice_test

import (
	"fmt"
	"math"
	"math/rand"
	"reflect"
	"slices"
	"strings"
	"testing"

	"fairhand/api"
	"fairhand/splice"
)

// of a text: its characters.
func of(s string) []int {
	var l []int
	for _, c := range s {
		l = append(l, int(c))
	}
	return l
}

// cut is a splice that is told shortly.
func cut(from, to int, text string) api.Splice {
	return api.Splice{From: from, To: to, Text: of(text)}
}

func edit(all ...api.Splice) []api.Splice { return all }

// numbers: so many, no two alike, from first on.
func numbers(first, count int) []int {
	var l []int
	for i := range count {
		l = append(l, first+i)
	}
	return l
}

// brief keeps what is told of a long list to some of it.
func brief(list any) string {
	s := fmt.Sprint(list)
	return s[:min(len(s), 300)]
}

// alike: lists that have nothing in them may be nil or empty.
func alike(e, f []api.Splice) bool {
	return slices.EqualFunc(e, f, func(s, t api.Splice) bool {
		return s.From == t.From && s.To == t.To && slices.Equal(s.Text, t.Text)
	})
}

// wantCheck asks what each splice must be, one thing after the other, and
// counts the line anew each time.
func wantCheck(n int, e []api.Splice) api.Errno {
	if !(0 <= n && n <= 4096) {
		return api.ErrArg
	}
	long := func(all []api.Splice) int {
		sum := n
		for _, s := range all {
			sum = sum - s.To + s.From + len(s.Text)
		}
		return sum
	}
	for i, s := range e {
		right := 0 <= s.From && s.From <= s.To && s.To <= n
		right = right && (i == 0 || s.From > e[i-1].To)
		right = right && (s.From != s.To || len(s.Text) != 0)
		if !right {
			return api.ErrForm
		}
		if len(s.Text) > 4096 || long(e[:i+1]) > 8192 {
			return api.ErrLarge
		}
	}
	if long(e) > 4096 {
		return api.ErrLarge
	}
	return api.OK
}

// wantApply does the last splice first, so that the places of the others stay.
func wantApply(l []int, e []api.Splice) []int {
	m := slices.Clone(l)
	for _, s := range slices.Backward(e) {
		m = slices.Concat(m[:s.From], s.Text, m[s.To:])
	}
	return m
}

// wantUndo finds where a Text begins by doing what is ahead of it alone.
func wantUndo(l []int, e []api.Splice) []api.Splice {
	var u []api.Splice
	for i, s := range e {
		from := len(wantApply(l[:s.From], e[:i]))
		u = append(u, api.Splice{From: from, To: from + len(s.Text), Text: l[s.From:s.To]})
	}
	return u
}

// wantBetween tries all beginnings and all ends, the longest first.
func wantBetween(l, m []int) []api.Splice {
	if slices.Equal(l, m) {
		return nil
	}
	begin := min(len(l), len(m))
	for !slices.Equal(l[:begin], m[:begin]) {
		begin--
	}
	l, m = l[begin:], m[begin:]
	end := min(len(l), len(m))
	for !slices.Equal(l[len(l)-end:], m[len(m)-end:]) {
		end--
	}
	return edit(api.Splice{From: begin, To: begin + len(l) - end, Text: m[:len(m)-end]})
}

// item is one character of the line, or one that a or b puts in.
type item struct {
	c              int
	putA, putB     bool
	takenA, takenB bool
}

func (i item) there() bool { return !i.putA && !i.takenB }

func (i item) stays() bool { return i.there() && !i.takenA }

// itemsOf lists all that stood in the line and that was put in, in the order
// that the document tells.
func itemsOf(l []int, a, b []api.Splice, ahead bool) []item {
	puts := func(e []api.Splice, k int, as item) (out []item) {
		for _, s := range e {
			if s.From == k {
				for _, c := range s.Text {
					as.c = c
					out = append(out, as)
				}
			}
		}
		return out
	}
	takes := func(e []api.Splice, k int) bool {
		return slices.ContainsFunc(e, func(s api.Splice) bool { return s.From <= k && k < s.To })
	}
	var all []item
	for k := 0; k <= len(l); k++ {
		two := [2][]item{puts(b, k, item{putB: true}), puts(a, k, item{putA: true})}
		if ahead {
			two[0], two[1] = two[1], two[0]
		}
		all = append(append(all, two[0]...), two[1]...)
		if k < len(l) {
			all = append(all, item{c: l[k], takenA: takes(a, k), takenB: takes(b, k)})
		}
	}
	return all
}

// wantOver cuts the items wherever one stays; each piece between is a splice,
// unless it does nothing.
func wantOver(l []int, a, b []api.Splice, ahead bool) []api.Splice {
	var told []api.Splice
	at := 0
	items := itemsOf(l, a, b, ahead)
	for {
		end := slices.IndexFunc(items, item.stays)
		piece := items
		if end >= 0 {
			piece = items[:end]
		}
		s := api.Splice{From: at, To: at}
		for _, i := range piece {
			if i.putA {
				s.Text = append(s.Text, i.c)
			} else if i.there() {
				s.To++
			}
		}
		if s.From != s.To || len(s.Text) > 0 {
			told = append(told, s)
		}
		if end < 0 {
			return told
		}
		at = s.To + 1
		items = items[end+1:]
	}
}

// wantBoth is the line when a and b are done.
func wantBoth(l []int, a, b []api.Splice, ahead bool) []int {
	var m []int
	for _, i := range itemsOf(l, a, b, ahead) {
		if !i.takenA && !i.takenB {
			m = append(m, i.c)
		}
	}
	return m
}

func checkCheck(t *testing.T, n int, e []api.Splice, want api.Errno) {
	t.Helper()
	if err := splice.Check(n, e); err != want {
		t.Fatalf("Check(%d, %s): %v, not %v", n, brief(e), err, want)
	}
}

func checkApply(t *testing.T, l []int, e []api.Splice, want []int) {
	t.Helper()
	if m, err := splice.Apply(l, e); err != api.OK || !slices.Equal(m, want) {
		t.Fatalf("Apply(%s, %s): %s %v, not %s", brief(l), brief(e), brief(m), err, brief(want))
	}
}

func checkUndo(t *testing.T, l []int, e, want []api.Splice) {
	t.Helper()
	u, err := splice.Undo(l, e)
	if err != api.OK || !alike(u, want) {
		t.Fatalf("Undo(%s, %s): %s %v, not %s", brief(l), brief(e), brief(u), err, brief(want))
	}
	checkApply(t, wantApply(l, e), u, l)
}

func checkBetween(t *testing.T, l, m []int, want []api.Splice) {
	t.Helper()
	e, err := splice.Between(l, m)
	if err != api.OK || !alike(e, want) {
		t.Fatalf("Between(%s, %s): %s %v, not %s", brief(l), brief(m), brief(e), err, brief(want))
	}
	checkApply(t, l, e, m)
}

func checkOver(t *testing.T, n int, a, b []api.Splice, ahead bool, want []api.Splice) {
	t.Helper()
	if o, err := splice.Over(n, a, b, ahead); err != api.OK || !alike(o, want) {
		t.Fatalf("Over(%d, %s, %s, %v): %s %v, not %s", n, brief(a), brief(b), ahead, brief(o), err, brief(want))
	}
}

// checkError: Check, Apply, Undo and Over tell it, and nothing beside it. The
// edit that Over is handed besides is right.
func checkError(t *testing.T, l []int, e []api.Splice, want api.Errno) {
	t.Helper()
	checkCheck(t, len(l), e, want)
	if m, err := splice.Apply(l, e); m != nil || err != want {
		t.Fatalf("Apply(%d characters, %s): %s %v, not %v", len(l), brief(e), brief(m), err, want)
	}
	if u, err := splice.Undo(l, e); u != nil || err != want {
		t.Fatalf("Undo(%d characters, %s): %s %v, not %v", len(l), brief(e), brief(u), err, want)
	}
	checkOverError(t, len(l), e, nil, want)
	checkOverError(t, len(l), nil, e, want)
}

func checkOverError(t *testing.T, n int, a, b []api.Splice, want api.Errno) {
	t.Helper()
	for _, ahead := range []bool{false, true} {
		if o, err := splice.Over(n, a, b, ahead); o != nil || err != want {
			t.Fatalf("Over(%d, %s, %s, %v): %s %v, not %v", n, brief(a), brief(b), ahead, brief(o), err, want)
		}
	}
}

// checkEdit: all that is asked of one edit.
func checkEdit(t *testing.T, l []int, e []api.Splice) {
	t.Helper()
	checkCheck(t, len(l), e, api.OK)
	m := wantApply(l, e)
	checkApply(t, l, e, m)
	checkUndo(t, l, e, wantUndo(l, e))
	checkBetween(t, l, m, wantBetween(l, m))
	checkBetween(t, m, l, wantBetween(m, l))
}

// checkTwo: all that is asked of two edits of one line.
func checkTwo(t *testing.T, l []int, a, b []api.Splice) {
	t.Helper()
	for _, ahead := range []bool{false, true} {
		checkOver(t, len(l), a, b, ahead, wantOver(l, a, b, ahead))
		checkBoth(t, l, a, b, ahead)
	}
}

// checkBoth: whoever is done first, the same line comes of it.
func checkBoth(t *testing.T, l []int, a, b []api.Splice, ahead bool) {
	t.Helper()
	want := wantBoth(l, a, b, ahead)
	if len(want) > api.MaxText {
		return
	}
	over, _ := splice.Over(len(l), a, b, ahead)
	checkApply(t, wantApply(l, b), over, want)
	under, _ := splice.Over(len(l), b, a, !ahead)
	checkApply(t, wantApply(l, a), under, want)
}

// editsOf lists all right edits of a line of n characters with Texts of up to
// most characters; no two characters of an edit are alike.
func editsOf(n, first, most int) [][]api.Splice {
	var all [][]api.Splice
	var grow func(e []api.Splice, from, next int)
	grow = func(e []api.Splice, from, next int) {
		all = append(all, e)
		for ; from <= n; from++ {
			for to := from; to <= n; to++ {
				for long := range most + 1 {
					if from < to || long > 0 {
						s := api.Splice{From: from, To: to, Text: numbers(next, long)}
						grow(append(slices.Clone(e), s), to+1, next+long)
					}
				}
			}
		}
	}
	grow(nil, 0, first)
	return all
}

func someEdit(r *rand.Rand, n, first, spread int) []api.Splice {
	var e []api.Splice
	for from := r.Intn(spread); from <= n; {
		s := api.Splice{From: from, To: min(n, from+r.Intn(4)), Text: numbers(first, r.Intn(4))}
		first += len(s.Text)
		if s.From < s.To || len(s.Text) > 0 {
			e = append(e, s)
		}
		from = s.To + 1 + r.Intn(spread)
	}
	return e
}

func TestCheckOfWhatIsRight(t *testing.T) {
	checkCheck(t, 0, nil, api.OK)
	checkCheck(t, 0, []api.Splice{}, api.OK)
	checkCheck(t, 0, edit(cut(0, 0, "x")), api.OK)
	checkCheck(t, 3, edit(cut(0, 3, "")), api.OK)
	checkCheck(t, 3, edit(cut(0, 3, "abcd")), api.OK)
	checkCheck(t, 3, edit(cut(3, 3, "x")), api.OK)
	checkCheck(t, 3, edit(cut(0, 0, "x"), cut(1, 1, "y"), cut(2, 2, "z"), cut(3, 3, "w")), api.OK)
	checkCheck(t, 3, edit(cut(0, 1, ""), cut(2, 3, "")), api.OK)
	checkCheck(t, api.MaxText, nil, api.OK)
}

func TestCheckOfWrongForms(t *testing.T) {
	const most, least = math.MaxInt, math.MinInt
	for _, e := range [][]api.Splice{
		// From is not from 0 to To, or To is above n.
		edit(cut(-1, 1, "x")), edit(cut(-1, -1, "x")), edit(cut(2, 1, "x")), edit(cut(2, 1, "")),
		edit(cut(3, 5, "")), edit(cut(5, 5, "x")), edit(cut(0, 5, "x")),
		edit(cut(least, most, "x")), edit(cut(most, least, "x")), edit(cut(least, least, "x")),
		edit(cut(most, most, "x")), edit(cut(0, most, "")), edit(cut(least, 0, "")), edit(cut(least, 4, "")),
		// Nothing is done.
		edit(cut(0, 0, "")), edit(cut(4, 4, "")), edit(api.Splice{From: 2, To: 2, Text: []int{}}),
		edit(cut(0, 1, ""), cut(2, 2, ""), cut(3, 4, "")),
		// From is not above the To of the splice ahead.
		edit(cut(0, 1, "x"), cut(1, 2, "x")), edit(cut(0, 0, "x"), cut(0, 0, "y")), edit(cut(0, 0, "x"), cut(0, 1, "")),
		edit(cut(0, 2, ""), cut(1, 3, "")), edit(cut(2, 3, ""), cut(0, 1, "")), edit(cut(0, 3, ""), cut(1, 2, "x")),
		edit(cut(4, 4, "x"), cut(4, 4, "y")), edit(cut(0, 1, ""), cut(2, 2, "x"), cut(2, 3, "")),
		edit(cut(2, 3, ""), cut(-1, 4, "")), edit(cut(2, 3, ""), cut(least, 4, "")),
		edit(cut(0, 1, ""), cut(2, 3, ""), cut(4, 5, "")),
	} {
		checkError(t, of("abcd"), e, api.ErrForm)
	}
}

// All lists of up to two splices around all places of short lines, right or
// not, and up to three of some.
func TestCheckOfAllShortLists(t *testing.T) {
	for n := range 4 {
		var grow func(e []api.Splice, most int)
		grow = func(e []api.Splice, most int) {
			checkCheck(t, n, e, wantCheck(n, e))
			if len(e) == most {
				return
			}
			for from := -1; from <= n+1; from++ {
				for to := -1; to <= n+1; to++ {
					for long := range 2 {
						grow(append(slices.Clone(e), api.Splice{From: from, To: to, Text: make([]int, long)}), most)
					}
				}
			}
		}
		grow(nil, 2)
		if n < 3 {
			grow(nil, 3)
		}
	}
}

func TestLinesOfNoLength(t *testing.T) {
	wrong := edit(cut(-1, 0, ""))
	for _, n := range []int{math.MinInt, math.MinInt32, -4096, -1, 4097, 8192, 1 << 32, 1<<32 + 5, math.MaxInt} {
		for _, e := range [][]api.Splice{nil, edit(cut(0, 0, "x")), wrong, edit(cut(0, n, "x"))} {
			checkCheck(t, n, e, api.ErrArg)
			checkOverError(t, n, e, nil, api.ErrArg)
			checkOverError(t, n, nil, e, api.ErrArg)
		}
	}
	for _, n := range []int{4097, 9000} {
		checkError(t, make([]int, n), nil, api.ErrArg)
		checkError(t, make([]int, n), wrong, api.ErrArg)
		checkError(t, make([]int, n), edit(cut(0, 4097, "")), api.ErrArg)
	}
}

// put is a splice of a Text of so many characters.
func put(from, to, long int) api.Splice {
	return api.Splice{From: from, To: to, Text: numbers(10000, long)}
}

func TestCheckOfLimits(t *testing.T) {
	for _, test := range []struct {
		n    int
		e    []api.Splice
		want api.Errno
	}{
		{0, edit(put(0, 0, 4096)), api.OK},
		{0, edit(put(0, 0, 4097)), api.ErrLarge},
		{1, edit(put(0, 0, 4096)), api.ErrLarge},
		{1, edit(put(0, 1, 4096)), api.OK},
		{4096, edit(put(0, 4096, 4096)), api.OK},
		{4096, edit(put(0, 4096, 4097)), api.ErrLarge},
		{4096, edit(put(4096, 4096, 1)), api.ErrLarge},
		{4096, edit(put(4095, 4096, 1)), api.OK},
		{4096, edit(put(4095, 4096, 2)), api.ErrLarge},
		{2000, edit(put(0, 0, 2000), put(2000, 2000, 96)), api.OK},
		{2000, edit(put(0, 0, 2000), put(2000, 2000, 97)), api.ErrLarge},
		// On the way there may be more than at the end, and a Text of 4097 is
		// too large, whatever goes for it.
		{4096, edit(put(0, 0, 4096), put(1, 4096, 0)), api.ErrLarge},
		{4096, edit(put(0, 0, 4095), put(1, 4096, 0)), api.OK},
		{4096, edit(put(0, 1, 4095), put(2, 4096, 0)), api.OK},
		{4096, edit(put(0, 1, 4097), put(2, 4096, 0)), api.ErrLarge},
		{4096, edit(put(0, 0, 4000), put(1, 1, 93), put(2, 4096, 0)), api.OK},
		{4096, edit(put(0, 0, 4000), put(1, 1, 95), put(2, 4096, 0)), api.ErrLarge},
		// What is told first is the answer.
		{4096, edit(put(0, 0, 4096), put(1, 1, 1), put(0, 0, 0)), api.ErrLarge},
		{4096, edit(put(0, 0, 4096), put(1, 1, 0)), api.ErrForm},
		{4096, edit(put(0, 0, 4096), put(0, 0, 1)), api.ErrForm},
		{4096, edit(put(0, 0, 4095), put(1, 1, 1), put(1, 1, 1)), api.ErrForm},
		{4096, edit(put(0, 0, 4095), put(1, 1, 2), put(1, 1, 1)), api.ErrLarge},
		{4096, edit(put(0, 0, 4095), put(1, 1, 1), put(2, 2, 1)), api.ErrLarge},
		{4, edit(put(0, 0, 4097), put(0, 0, 0)), api.ErrLarge},
		{4, edit(put(2, 1, 4097)), api.ErrForm},
		{4, edit(put(5, 5, 4097)), api.ErrForm},
		{4, edit(put(0, 0, 4096), put(5, 5, 1)), api.ErrForm},
		{0, edit(put(0, 0, 100000)), api.ErrLarge},
	} {
		if want := wantCheck(test.n, test.e); want != test.want {
			t.Fatalf("%d, %v: %v", test.n, test.want, want)
		}
		l := numbers(1, test.n)
		if test.want != api.OK {
			checkError(t, l, test.e, test.want)
			continue
		}
		checkEdit(t, l, test.e)
		checkTwo(t, l, test.e, nil)
		checkTwo(t, l, nil, test.e)
		checkTwo(t, l, test.e, test.e)
	}
}

// On the way there may be 8192, not one more: which error is told first shows
// at which splice it was seen.
func TestAsSoonAsItIsTooLarge(t *testing.T) {
	for _, test := range []struct {
		e    []api.Splice
		want api.Errno
	}{
		{edit(put(0, 0, 4096), put(1, 11, 10), put(12, 4096, 0)), api.ErrLarge},
		{edit(put(0, 0, 4096), put(1, 2, 0), put(3, 3, 1), put(-1, 5, 0)), api.ErrForm},
		{edit(put(0, 0, 4096), put(1, 2, 0), put(3, 3, 2), put(-1, 5, 0)), api.ErrLarge},
		{edit(put(0, 0, 4096), put(1, 2, 1), put(-1, 5, 0)), api.ErrForm},
		{edit(put(0, 0, 4096), put(1, 2, 2), put(-1, 5, 0)), api.ErrLarge},
	} {
		checkError(t, numbers(1, 4096), test.e, test.want)
	}
}

// checkThereAndBack is for edits that are too long to be told a second time
// splice by splice.
func checkThereAndBack(t *testing.T, l []int, e []api.Splice) {
	t.Helper()
	m := wantApply(l, e)
	checkApply(t, l, e, m)
	u, err := splice.Undo(l, e)
	if len(u) != len(e) || err != api.OK {
		t.Fatalf("Undo of %d splices: %d %v", len(e), len(u), err)
	}
	checkApply(t, m, u, l)
	again, err := splice.Undo(m, u)
	if !alike(again, e) || err != api.OK {
		t.Fatalf("Undo twice: %s %v, not %s", brief(again), err, brief(e))
	}
}

func TestManySplices(t *testing.T) {
	l := numbers(1, 4096)
	var e, inserts []api.Splice
	for at := 0; at < 4096; at += 2 {
		e = append(e, put(at, at+1, at%3))
	}
	for at := range 2049 {
		inserts = append(inserts, put(at, at, 1))
	}
	if err := wantCheck(4096, e); err != api.OK {
		t.Fatal(err)
	}
	checkThereAndBack(t, l, e)
	checkTwo(t, l, e, nil)
	checkTwo(t, l, e, edit(put(0, 4096, 1)))
	checkTwo(t, l, edit(put(0, 4096, 1)), e)
	checkThereAndBack(t, l[:2047], inserts[:2048])
	checkTwo(t, l[:2047], inserts[:2048], inserts[:2048])
	checkError(t, l[:2048], inserts, api.ErrLarge)
	checkError(t, l, make([]api.Splice, 1000000), api.ErrForm)
}

func TestApplyAndUndo(t *testing.T) {
	for _, test := range []struct {
		l, m       string
		e, undoing []api.Splice
	}{
		{"", "", nil, nil},
		{"ab", "ab", nil, nil},
		{"", "xy", edit(cut(0, 0, "xy")), edit(cut(0, 2, ""))},
		{"ab", "", edit(cut(0, 2, "")), edit(cut(0, 0, "ab"))},
		{"ab", "abx", edit(cut(2, 2, "x")), edit(cut(2, 3, ""))},
		{"ab", "axb", edit(cut(1, 1, "x")), edit(cut(1, 2, ""))},
		{"abcdef", "aXYcdZef", edit(cut(1, 2, "XY"), cut(4, 4, "Z")), edit(cut(1, 3, "b"), cut(5, 6, ""))},
		{"abcdef", "XcYZWe", edit(cut(0, 2, "X"), cut(3, 4, "YZW"), cut(5, 6, "")), edit(cut(0, 1, "ab"), cut(2, 5, "d"), cut(6, 6, "f"))},
		// The same is put back, though it changes nothing.
		{"abc", "abc", edit(cut(1, 2, "b")), edit(cut(1, 2, "b"))},
		{"aä€", "€ä€", edit(cut(0, 1, "€")), edit(cut(0, 1, "a"))},
		{"abc", "xaybzcw", edit(cut(0, 0, "x"), cut(1, 1, "y"), cut(2, 2, "z"), cut(3, 3, "w")),
			edit(cut(0, 1, ""), cut(2, 3, ""), cut(4, 5, ""), cut(6, 7, ""))},
	} {
		checkApply(t, of(test.l), test.e, of(test.m))
		checkUndo(t, of(test.l), test.e, test.undoing)
		checkEdit(t, of(test.l), test.e)
	}
}

func TestBetween(t *testing.T) {
	for _, test := range []struct {
		l, m string
		want []api.Splice
	}{
		{"", "", nil},
		{"ab", "ab", nil},
		{"", "ab", edit(cut(0, 0, "ab"))},
		{"ab", "", edit(cut(0, 2, ""))},
		{"aXc", "aYZc", edit(cut(1, 2, "YZ"))},
		{"abc", "xyz", edit(cut(0, 3, "xyz"))},
		{"abc", "abcd", edit(cut(3, 3, "d"))},
		{"abcd", "abc", edit(cut(3, 4, ""))},
		{"bc", "abc", edit(cut(0, 0, "a"))},
		{"abc", "bc", edit(cut(0, 1, ""))},
		{"abcde", "axcye", edit(cut(1, 4, "xcy"))},
		// The beginning comes first, and the end has what is left of both.
		{"aa", "aaa", edit(cut(2, 2, "a"))},
		{"aaa", "aa", edit(cut(2, 3, ""))},
		{"aba", "ababa", edit(cut(3, 3, "ba"))},
		{"ababa", "aba", edit(cut(3, 5, ""))},
		{"abab", "ab", edit(cut(2, 4, ""))},
		{"xaa", "xa", edit(cut(2, 3, ""))},
		{"aab", "ab", edit(cut(1, 2, ""))},
		{"ab", "aab", edit(cut(1, 1, "a"))},
	} {
		checkBetween(t, of(test.l), of(test.m), test.want)
	}
	e, _ := splice.Between(numbers(1, 3), []int{1, 3})
	if !alike(e, edit(api.Splice{From: 1, To: 2})) {
		t.Error(e)
	}
}

func TestBetweenAllShortLines(t *testing.T) {
	var all [][]int
	var grow func(l []int)
	grow = func(l []int) {
		all = append(all, l)
		if len(l) < 7 {
			grow(append(slices.Clone(l), math.MinInt))
			grow(append(slices.Clone(l), math.MaxInt))
		}
	}
	grow(nil)
	for _, l := range all {
		for _, m := range all {
			checkBetween(t, l, m, wantBetween(l, m))
		}
	}
}

func TestBetweenLongLines(t *testing.T) {
	l := numbers(1, api.MaxText)
	for _, at := range []int{0, 1, 2000, api.MaxText - 1} {
		m := slices.Clone(l)
		m[at] = -1
		checkBetween(t, l, m, edit(api.Splice{From: at, To: at + 1, Text: []int{-1}}))
		m = slices.Delete(m, at, at+1)
		checkBetween(t, l, m, edit(api.Splice{From: at, To: at + 1}))
		checkBetween(t, m, l, edit(api.Splice{From: at, To: at, Text: []int{l[at]}}))
	}
	checkBetween(t, l, l, nil)
	checkBetween(t, l, nil, edit(api.Splice{From: 0, To: api.MaxText}))
	checkBetween(t, nil, l, edit(api.Splice{Text: l}))
	checkBetween(t, l, numbers(-5000, api.MaxText), edit(api.Splice{From: 0, To: api.MaxText, Text: numbers(-5000, api.MaxText)}))
	for _, n := range []int{api.MaxText + 1, 2 * api.MaxText, 100000} {
		large := make([]int, n)
		for _, two := range [][2][]int{{large, nil}, {nil, large}, {large, l}, {l, large}, {large, large}} {
			if e, err := splice.Between(two[0], two[1]); e != nil || err != api.ErrLarge {
				t.Errorf("Between %d and %d: %v %v", len(two[0]), len(two[1]), e, err)
			}
		}
	}
}

func TestOver(t *testing.T) {
	for _, test := range []struct {
		n                   int
		a, b, ahead, behind []api.Splice
	}{
		{n: 3},
		{n: 3, b: edit(cut(0, 1, "x"))},
		// Where b does nothing, a is done as it is.
		{3, edit(cut(0, 1, "x"), cut(2, 2, "y")), nil, edit(cut(0, 1, "x"), cut(2, 2, "y")), edit(cut(0, 1, "x"), cut(2, 2, "y"))},
		// Both put in at one place.
		{0, edit(cut(0, 0, "a")), edit(cut(0, 0, "bb")), edit(cut(0, 0, "a")), edit(cut(2, 2, "a"))},
		{2, edit(cut(1, 1, "a")), edit(cut(1, 1, "bb")), edit(cut(1, 1, "a")), edit(cut(3, 3, "a"))},
		{2, edit(cut(2, 2, "a")), edit(cut(2, 2, "bb")), edit(cut(2, 2, "a")), edit(cut(4, 4, "a"))},
		// b puts in ahead of what a does, or behind it.
		{3, edit(cut(1, 2, "a")), edit(cut(0, 0, "bb")), edit(cut(3, 4, "a")), edit(cut(3, 4, "a"))},
		{3, edit(cut(1, 2, "a")), edit(cut(2, 2, "bb")), edit(cut(1, 2, "a")), edit(cut(1, 2, "a"))},
		{3, edit(cut(1, 2, "a")), edit(cut(3, 3, "bb")), edit(cut(1, 2, "a")), edit(cut(1, 2, "a"))},
		// Where b puts in at a place where a begins to take away, its Text
		// stands between a's Text and what goes, if a is ahead.
		{3, edit(cut(1, 2, "a")), edit(cut(1, 1, "bb")), edit(cut(1, 1, "a"), cut(3, 4, "")), edit(cut(3, 4, "a"))},
		// b puts in amid what a takes away: it stays.
		{3, edit(cut(0, 2, "")), edit(cut(1, 1, "Q")), edit(cut(0, 1, ""), cut(2, 3, "")), edit(cut(0, 1, ""), cut(2, 3, ""))},
		{3, edit(cut(0, 3, "a")), edit(cut(1, 2, "Q")), edit(cut(0, 1, "a"), cut(2, 3, "")), edit(cut(0, 1, "a"), cut(2, 3, ""))},
		// a puts in amid what b takes away: it stays.
		{3, edit(cut(1, 1, "Q")), edit(cut(0, 2, "")), edit(cut(0, 0, "Q")), edit(cut(0, 0, "Q"))},
		{3, edit(cut(1, 1, "Q")), edit(cut(0, 2, "bb")), edit(cut(2, 2, "Q")), edit(cut(2, 2, "Q"))},
		// What both take away is gone once.
		{3, edit(cut(0, 3, "")), edit(cut(0, 3, "")), nil, nil},
		{3, edit(cut(1, 2, "")), edit(cut(0, 3, "")), nil, nil},
		{4, edit(cut(0, 3, "")), edit(cut(1, 4, "")), edit(cut(0, 1, "")), edit(cut(0, 1, ""))},
		{4, edit(cut(1, 4, "")), edit(cut(0, 3, "")), edit(cut(0, 1, "")), edit(cut(0, 1, ""))},
		{4, edit(cut(0, 4, "")), edit(cut(1, 3, "")), edit(cut(0, 2, "")), edit(cut(0, 2, ""))},
		{2, edit(cut(0, 2, "a")), edit(cut(0, 2, "bb")), edit(cut(0, 0, "a")), edit(cut(2, 2, "a"))},
		// With nothing that stays between, what a does is one splice.
		{3, edit(cut(0, 0, "x"), cut(3, 3, "y")), edit(cut(0, 3, "")), edit(cut(0, 0, "xy")), edit(cut(0, 0, "xy"))},
		{3, edit(cut(0, 1, "x"), cut(2, 3, "y")), edit(cut(1, 2, "")), edit(cut(0, 2, "xy")), edit(cut(0, 2, "xy"))},
		{3, edit(cut(0, 1, ""), cut(2, 2, "y")), edit(cut(1, 2, "")), edit(cut(0, 1, "y")), edit(cut(0, 1, "y"))},
		{3, edit(cut(0, 1, ""), cut(2, 3, "y")), edit(cut(1, 2, "b")), edit(cut(0, 1, ""), cut(2, 3, "y")), edit(cut(0, 1, ""), cut(2, 3, "y"))},
		{5, edit(cut(0, 0, "v"), cut(1, 2, "w"), cut(3, 3, "x"), cut(4, 5, "")), edit(cut(0, 1, ""), cut(2, 4, "")), edit(cut(0, 2, "vwx")), edit(cut(0, 2, "vwx"))},
		{3, edit(cut(0, 0, "x"), cut(2, 2, "y")), edit(cut(0, 2, "b")), edit(cut(0, 0, "x"), cut(1, 1, "y")), edit(cut(1, 1, "xy"))},
	} {
		l := numbers(1, test.n)
		checkOver(t, test.n, test.a, test.b, true, test.ahead)
		checkOver(t, test.n, test.a, test.b, false, test.behind)
		checkTwo(t, l, test.a, test.b)
		checkTwo(t, l, test.b, test.a)
	}
}

// A Text that has nothing in it is told in one way.
func TestNothingIsToldAsNil(t *testing.T) {
	l, e := of("abc"), edit(cut(0, 1, ""), cut(2, 3, "x"))
	u, _ := splice.Undo(l, edit(cut(0, 0, "x")))
	b, _ := splice.Between(of("abc"), of("ac"))
	o, _ := splice.Over(3, e, edit(cut(2, 2, "y")), true)
	for _, test := range []struct{ got, want []api.Splice }{
		{u, edit(api.Splice{From: 0, To: 1})},
		{b, edit(api.Splice{From: 1, To: 2})},
		{o, edit(api.Splice{From: 0, To: 1}, api.Splice{From: 2, To: 2, Text: of("x")}, api.Splice{From: 3, To: 4})},
	} {
		if !reflect.DeepEqual(test.got, test.want) {
			t.Errorf("%#v, not %#v", test.got, test.want)
		}
	}
}

func TestAllShortEdits(t *testing.T) {
	for n := range 6 {
		for _, e := range editsOf(n, 100, 2) {
			checkEdit(t, numbers(1, n), e)
		}
	}
}

func TestAllTwoShortEdits(t *testing.T) {
	for n, most := range []int{3, 3, 2, 2, 1} {
		l := numbers(1, n)
		all := editsOf(n, 100, most)
		others := editsOf(n, 200, most)
		for _, a := range all {
			for _, b := range others {
				checkTwo(t, l, a, b)
			}
		}
	}
}

func TestLongerEdits(t *testing.T) {
	r := rand.New(rand.NewSource(9))
	for range 3000 {
		l := numbers(1, r.Intn(60))
		a := someEdit(r, len(l), 100000, 1+r.Intn(12))
		b := someEdit(r, len(l), 200000, 1+r.Intn(12))
		checkEdit(t, l, a)
		checkTwo(t, l, a, b)
	}
}

// Two edits that Between tells of one line, as two hands would make them.
func TestOverWhatIsBetween(t *testing.T) {
	lines := []string{"", "a", "ab cd", "abcd", "ab xy cd", "cd ab", "xy", "ab cd ab cd", strings.Repeat("ab", 30)}
	for _, s := range lines {
		for _, one := range lines {
			for _, other := range lines {
				a, _ := splice.Between(of(s), of(one))
				b, _ := splice.Between(of(s), of(other))
				checkTwo(t, of(s), a, b)
			}
		}
	}
}

// The error of a is told, if both have one.
func TestOverTellsTheFirstError(t *testing.T) {
	form, large, right := edit(put(2, 1, 1)), edit(put(0, 0, 4096)), edit(put(0, 1, 1))
	checkOverError(t, 4, form, large, api.ErrForm)
	checkOverError(t, 4, large, form, api.ErrLarge)
	checkOverError(t, 4, right, form, api.ErrForm)
	checkOverError(t, 4, right, large, api.ErrLarge)
	checkOverError(t, 4, form, right, api.ErrForm)
	checkOverError(t, 4, large, right, api.ErrLarge)
	checkOverError(t, -1, form, large, api.ErrArg)
	checkOverError(t, 4097, large, form, api.ErrArg)
}

// Over has no error of its own: a is told even if there is no room for it
// behind b.
func TestOverWithoutRoom(t *testing.T) {
	a, b := edit(put(0, 0, 4096)), edit(api.Splice{Text: numbers(20000, 4096)})
	checkTwo(t, nil, a, b)
	checkOver(t, 0, a, b, true, a)
	checkOver(t, 0, a, b, false, edit(put(4096, 4096, 4096)))
	checkCheck(t, 4096, a, api.ErrLarge)
	l := numbers(1, 4096)
	a = edit(put(0, 2000, 4000), put(2001, 4096, 95))
	b = edit(put(0, 4096, 4096))
	checkTwo(t, l, a, b)
	checkOver(t, 4096, a, b, false, edit(api.Splice{From: 4096, To: 4096, Text: append(numbers(10000, 4000), numbers(10000, 95)...)}))
	checkTwo(t, l, a, edit(put(0, 4096, 0)))
	checkTwo(t, l, edit(put(0, 4096, 0)), a)
}

func TestAnyNumberIsOne(t *testing.T) {
	odd := []int{math.MinInt, math.MaxInt, 0, -1, 1 << 32, 0x110000}
	a := edit(api.Splice{From: 0, To: 2, Text: odd}, api.Splice{From: 4, To: 4, Text: []int{math.MinInt}})
	b := edit(api.Splice{From: 1, To: 3, Text: []int{math.MaxInt}}, api.Splice{From: 6, To: 6, Text: odd})
	checkEdit(t, odd, a)
	checkEdit(t, odd, b)
	checkTwo(t, odd, a, b)
	checkTwo(t, odd, b, a)
	// Numbers that only some of their bits tell apart.
	checkBetween(t, []int{'a', 'b', 'c'}, []int{'a', 'b' + 1<<32, 'c'}, edit(api.Splice{From: 1, To: 2, Text: []int{'b' + 1<<32}}))
}

// memory is a list with numbers of its own behind it, that nobody may see.
type memory struct{ list, all, was []int }

func laid(l ...int) memory {
	all := slices.Concat([]int{-7, -7}, l, []int{-8, -8, -8})
	return memory{all[2 : 2+len(l)], all, slices.Clone(all)}
}

func (m memory) stays(t *testing.T, what string) {
	t.Helper()
	if !slices.Equal(m.all, m.was) {
		t.Errorf("%s: %v was %v", what, m.all, m.was)
	}
}

// write writes into all the memory of an answer, list by list, and each time
// looks whether another list has changed.
func write(t *testing.T, what string, lists [][]int) {
	t.Helper()
	for i, l := range lists {
		l = l[:cap(l)]
		for at := range l {
			l[at] = -100 - i
		}
	}
	for i, l := range lists {
		for _, c := range l[:cap(l)] {
			if c != -100-i {
				t.Errorf("%s: list %d shares its memory", what, i)
			}
		}
	}
}

func textsOf(e []api.Splice) [][]int {
	var all [][]int
	for _, s := range e {
		all = append(all, s.Text)
	}
	return all
}

func TestWhatIsHandedInStaysAsItWas(t *testing.T) {
	l, m := laid(1, 2, 3, 4, 5, 6, 7, 8), laid(1, 2, 9, 4, 5, 7, 8)
	x, y, z := laid(50, 51), laid(60), laid(70, 71, 72)
	a := edit(api.Splice{From: 0, To: 1, Text: x.list}, api.Splice{From: 3, To: 5, Text: x.list[:0]},
		api.Splice{From: 6, To: 6, Text: y.list}, cut(9, 9, "hidden"))[:3]
	b := edit(api.Splice{From: 2, To: 4, Text: z.list}, api.Splice{From: 6, To: 7}, api.Splice{From: 8, To: 8, Text: x.list})
	wasA, wasB := slices.Clone(a[:4]), slices.Clone(b)
	answers := func() map[string][][]int {
		made, _ := splice.Apply(l.list, a)
		same, _ := splice.Apply(l.list, nil)
		u, _ := splice.Undo(l.list, a)
		between, _ := splice.Between(l.list, m.list)
		over, _ := splice.Over(8, a, b, true)
		under, _ := splice.Over(8, a, b, false)
		alone, _ := splice.Over(8, a, nil, true)
		return map[string][][]int{"Apply": {made}, "Apply nothing": {same}, "Undo": textsOf(u), "Between": textsOf(between),
			"Over": textsOf(over), "Over behind": textsOf(under), "Over nothing": textsOf(alone)}
	}
	for what, lists := range answers() {
		write(t, what, lists)
		for _, memory := range []memory{l, m, x, y, z} {
			memory.stays(t, what)
		}
		if !reflect.DeepEqual(a[:4], wasA) || !reflect.DeepEqual(b, wasB) {
			t.Errorf("%s: %v %v", what, a[:4], b)
		}
	}
	if first, second := answers(), answers(); !reflect.DeepEqual(first, second) {
		t.Errorf("%v, then %v", first, second)
	}
}

// The list of splices is new memory, too.
func TestEditsAreNewMemory(t *testing.T) {
	l, a := of("abcdef"), edit(cut(0, 1, "x"), cut(3, 3, "y"))
	was := slices.Clone(a)
	for range 2 {
		u, _ := splice.Undo(l, a)
		o, _ := splice.Over(6, a, nil, true)
		for _, e := range [][]api.Splice{u, o} {
			for at := range e[:cap(e)] {
				e[:cap(e)][at] = api.Splice{From: -1, To: -1}
			}
		}
		if !reflect.DeepEqual(a, was) {
			t.Fatal(a)
		}
	}
}

// What is changed behind a call is seen by the next call, and nothing else is.
func TestNothingIsKeptFromCallToCall(t *testing.T) {
	l, e := of("abcdef"), edit(cut(1, 2, "xy"), cut(4, 4, "z"))
	for k := range 5 {
		l[k] += 1000
		e[0].Text[k%2] += 1000
		e[1].From, e[1].To = 3+k%2, 4+k%3
		checkEdit(t, l, e)
		checkTwo(t, l, e, edit(cut(k, k+1, "w")))
		checkError(t, l, edit(cut(3, 1, "")), api.ErrForm)
		checkError(t, l, edit(put(0, 0, 4096)), api.ErrLarge)
	}
}
