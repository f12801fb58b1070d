package mark_test

import (
	"fmt"
	"math"
	"math/rand"
	"reflect"
	"slices"
	"testing"

	"fairhand/api"
	"fairhand/mark"
	"fairhand/splice"
)

// odd are numbers that are neither a place nor a name.
var odd = []int{math.MinInt, math.MinInt + 1, math.MinInt32, -4097, -4096, -1, 4098, 8192, 1 << 32, 1<<32 + 1, 1<<32 + 'a', math.MaxInt - 1, math.MaxInt}

// numbers: so many, no two alike, from first on.
func numbers(first, count int) []int {
	var l []int
	for i := range count {
		l = append(l, first+i)
	}
	return l
}

// put is a splice of a Text of so many characters.
func put(from, to, long int) api.Splice {
	return api.Splice{From: from, To: to, Text: numbers(10000, long)}
}

func edit(all ...api.Splice) []api.Splice { return all }

// brief keeps what is told of a long list to some of it.
func brief(list any) string {
	s := fmt.Sprint(list)
	return s[:min(len(s), 300)]
}

// wantMove counts what is ahead of the place, as the document tells it, one
// thing after the other.
func wantMove(e []api.Splice, k int, stick bool) int {
	count := 0
	for c := range k {
		if !slices.ContainsFunc(e, func(s api.Splice) bool { return s.From <= c && c < s.To }) {
			count++
		}
	}
	var others []api.Splice
	for _, s := range e {
		if s.From < k && s.To <= k {
			count += len(s.Text)
		} else {
			others = append(others, s)
		}
	}
	for _, s := range others {
		if s.From <= k && !stick {
			count += len(s.Text)
		}
	}
	return count
}

func checkMove(t *testing.T, n int, e []api.Splice, k int, stick bool, want int) {
	t.Helper()
	if at, err := mark.Move(n, e, k, stick); at != want || err != api.OK {
		t.Fatalf("Move(%d, %s, %d, %v): %d %v, not %d", n, brief(e), k, stick, at, err, want)
	}
}

// checkMoveError: Move tells it, and nothing beside it.
func checkMoveError(t *testing.T, n int, e []api.Splice, k int, want api.Errno) {
	t.Helper()
	for _, stick := range []bool{false, true} {
		if at, err := mark.Move(n, e, k, stick); at != 0 || err != want {
			t.Fatalf("Move(%d, %s, %d, %v): %d %v, not %v", n, brief(e), k, stick, at, err, want)
		}
	}
}

// checkNeighbours: a character that stays goes with the place beside it, and
// the line that Apply makes shows it. No two characters may be alike.
func checkNeighbours(t *testing.T, l []int, e []api.Splice, k int) {
	t.Helper()
	m, _ := splice.Apply(l, e)
	behind, _ := mark.Move(len(l), e, k, false)
	ahead, _ := mark.Move(len(l), e, k, true)
	if ahead < 0 || ahead > behind || behind > len(m) {
		t.Fatalf("%s, %d: %d and %d of %d", brief(e), k, ahead, behind, len(m))
	}
	if k == len(l) && behind != len(m) || k == 0 && ahead != 0 {
		t.Fatalf("%s, %d: %d and %d of %d", brief(e), k, ahead, behind, len(m))
	}
	if k < len(l) && slices.Contains(m, l[k]) && m[behind] != l[k] {
		t.Fatalf("%s, %d: not at its character, but at %d", brief(e), k, behind)
	}
	if k > 0 && slices.Contains(m, l[k-1]) && m[ahead-1] != l[k-1] {
		t.Fatalf("%s, %d: not behind its character, but at %d", brief(e), k, ahead)
	}
}

// wantMoved: each mark by itself.
func wantMoved(n int, e []api.Splice, m api.Marks) api.Marks {
	for i, c := range m {
		switch {
		case c <= 0 || c > n+1:
			m[i] = 0
		default:
			m[i] = 1 + wantMove(e, c-1, false)
		}
	}
	return m
}

func checkMoved(t *testing.T, n int, e []api.Splice, m, want api.Marks) {
	t.Helper()
	if all, err := mark.Moved(n, e, m); all != want || err != api.OK {
		t.Fatalf("Moved(%d, %s, %v): %v %v, not %v", n, brief(e), m, all, err, want)
	}
}

func checkMovedError(t *testing.T, n int, e []api.Splice, want api.Errno) {
	t.Helper()
	for _, m := range []api.Marks{{}, {0: 1, 3: 5, 25: 4097}, {7: -1, 8: 5000}} {
		if all, err := mark.Moved(n, e, m); all != (api.Marks{}) || err != want {
			t.Fatalf("Moved(%d, %s, %v): %v %v, not %v", n, brief(e), m, all, err, want)
		}
	}
}

// checkEdit: all places of the line, and marks at all of them. The line has
// at most 26 places.
func checkEdit(t *testing.T, n int, e []api.Splice) {
	t.Helper()
	var m, want api.Marks
	for k := range n + 1 {
		for _, stick := range []bool{false, true} {
			checkMove(t, n, e, k, stick, wantMove(e, k, stick))
		}
		checkNeighbours(t, numbers(1, n), e, k)
		m[k], want[k] = k+1, wantMove(e, k, false)+1
	}
	checkMoved(t, n, e, m, want)
}

// editsOf lists all right edits of a line of n characters with Texts of up to
// most characters.
func editsOf(n, most int) [][]api.Splice {
	var all [][]api.Splice
	var grow func(e []api.Splice, from int)
	grow = func(e []api.Splice, from int) {
		all = append(all, e)
		for ; from <= n; from++ {
			for to := from; to <= n; to++ {
				for long := range most + 1 {
					if from < to || long > 0 {
						grow(append(slices.Clone(e), put(from, to, long)), to+1)
					}
				}
			}
		}
	}
	grow(nil, 0)
	return all
}

func someEdit(r *rand.Rand, n, spread int) []api.Splice {
	var e []api.Splice
	for from := r.Intn(spread); from <= n; {
		s := put(from, min(n, from+r.Intn(4)), r.Intn(4))
		if s.From < s.To || len(s.Text) > 0 {
			e = append(e, s)
		}
		from = s.To + 1 + r.Intn(spread)
	}
	return e
}

func TestMove(t *testing.T) {
	for _, test := range []struct {
		n             int
		e             []api.Splice
		k             int
		behind, stick int
	}{
		// Nothing is done.
		{0, nil, 0, 0, 0},
		{3, nil, 0, 0, 0},
		{3, []api.Splice{}, 2, 2, 2},
		{3, nil, 3, 3, 3},
		// Something is put in ahead of the place, where it is, and behind it.
		{0, edit(put(0, 0, 1)), 0, 1, 0},
		{3, edit(put(0, 0, 1)), 0, 1, 0},
		{3, edit(put(1, 1, 2)), 0, 0, 0},
		{3, edit(put(1, 1, 2)), 1, 3, 1},
		{3, edit(put(1, 1, 2)), 2, 4, 4},
		{3, edit(put(3, 3, 4)), 3, 7, 3},
		{3, edit(put(3, 3, 4)), 2, 2, 2},
		// Something is taken away.
		{6, edit(put(2, 4, 0)), 1, 1, 1},
		{6, edit(put(2, 4, 0)), 2, 2, 2},
		{6, edit(put(2, 4, 0)), 3, 2, 2},
		{6, edit(put(2, 4, 0)), 4, 2, 2},
		{6, edit(put(2, 4, 0)), 5, 3, 3},
		{6, edit(put(0, 6, 0)), 0, 0, 0},
		{6, edit(put(0, 6, 0)), 3, 0, 0},
		{6, edit(put(0, 6, 0)), 6, 0, 0},
		// Something stands in the place of what was there: behind the last
		// character that goes stick changes nothing.
		{6, edit(put(2, 4, 3)), 1, 1, 1},
		{6, edit(put(2, 4, 3)), 2, 5, 2},
		{6, edit(put(2, 4, 3)), 3, 5, 2},
		{6, edit(put(2, 4, 3)), 4, 5, 5},
		{6, edit(put(2, 4, 3)), 5, 6, 6},
		{6, edit(put(0, 6, 9)), 0, 9, 0},
		{6, edit(put(0, 6, 9)), 5, 9, 0},
		{6, edit(put(0, 6, 9)), 6, 9, 9},
		// Splices ahead, and behind.
		{6, edit(put(0, 1, 3), put(2, 2, 1), put(4, 6, 1)), 0, 3, 0},
		{6, edit(put(0, 1, 3), put(2, 2, 1), put(4, 6, 1)), 1, 3, 3},
		{6, edit(put(0, 1, 3), put(2, 2, 1), put(4, 6, 1)), 2, 5, 4},
		{6, edit(put(0, 1, 3), put(2, 2, 1), put(4, 6, 1)), 3, 6, 6},
		{6, edit(put(0, 1, 3), put(2, 2, 1), put(4, 6, 1)), 4, 8, 7},
		{6, edit(put(0, 1, 3), put(2, 2, 1), put(4, 6, 1)), 5, 8, 7},
		{6, edit(put(0, 1, 3), put(2, 2, 1), put(4, 6, 1)), 6, 8, 8},
	} {
		checkMove(t, test.n, test.e, test.k, false, test.behind)
		checkMove(t, test.n, test.e, test.k, true, test.stick)
		checkEdit(t, test.n, test.e)
	}
}

func TestAllShortEdits(t *testing.T) {
	for n := range 6 {
		for _, e := range editsOf(n, 2) {
			checkEdit(t, n, e)
		}
	}
}

func TestLongerEdits(t *testing.T) {
	r := rand.New(rand.NewSource(10))
	for range 5000 {
		n := r.Intn(26)
		checkEdit(t, n, someEdit(r, n, 1+r.Intn(6)))
	}
}

// Texts may be of any numbers; only how many they are counts.
func TestAnyNumberIsOne(t *testing.T) {
	e := edit(api.Splice{From: 0, To: 1, Text: odd}, api.Splice{From: 2, To: 2, Text: []int{math.MinInt, math.MaxInt}})
	checkMove(t, 3, e, 2, true, len(odd)+1)
	checkMove(t, 3, e, 2, false, len(odd)+3)
	checkMove(t, 3, e, 3, false, len(odd)+4)
}

// every is an edit that takes away or puts in at every other place of a line
// of 4096 characters.
func every() []api.Splice {
	var e []api.Splice
	for at := 0; at < api.MaxText; at += 2 {
		e = append(e, put(at, at+1, at%3))
	}
	return e
}

func TestLongLines(t *testing.T) {
	for _, test := range []struct {
		n int
		e []api.Splice
	}{
		{4096, nil},
		{4096, every()},
		{4096, edit(put(0, 4096, 4096))},
		{4096, edit(put(0, 4096, 0))},
		{4096, edit(put(0, 0, 4095), put(1, 4096, 0))},
		{4096, edit(put(0, 1, 0), put(4096, 4096, 1))},
		{2048, edit(put(0, 0, 1000), put(2048, 2048, 1048))},
		{1, edit(put(1, 1, 4095))},
		{0, edit(put(0, 0, 4096))},
	} {
		for _, k := range []int{0, 1, 2, 3, 4, 5, 6, 1999, 2000, 2001, 2047, 2048, 4093, 4094, 4095, 4096} {
			if k > test.n {
				continue
			}
			for _, stick := range []bool{false, true} {
				checkMove(t, test.n, test.e, k, stick, wantMove(test.e, k, stick))
			}
			m := api.Marks{0: k + 1, 25: test.n + 1}
			checkMoved(t, test.n, test.e, m, wantMoved(test.n, test.e, m))
		}
	}
	checkMove(t, 0, edit(put(0, 0, 4096)), 0, false, 4096)
	checkMoved(t, 0, edit(put(0, 0, 4096)), api.Marks{5: 1}, api.Marks{5: 4097})
}

func TestPlacesThatAreNone(t *testing.T) {
	for _, n := range []int{0, 1, 6, 4096} {
		for _, e := range [][]api.Splice{nil, edit(put(0, n, 1)), edit(put(n/2, n, 2))} {
			for _, k := range append([]int{n + 1, n + 2, 4097}, odd...) {
				checkMoveError(t, n, e, k, api.ErrArg)
			}
			// The first place and the last one are some.
			checkMove(t, n, e, 0, true, 0)
			checkMove(t, n, e, n, false, wantMove(e, n, false))
		}
	}
}

// wrongs are edits of a line of 4 characters that splice.Check refuses.
func wrongs() map[api.Errno][][]api.Splice {
	return map[api.Errno][][]api.Splice{
		api.ErrForm: {
			edit(put(2, 1, 1)), edit(put(-1, 1, 1)), edit(put(3, 5, 1)), edit(put(5, 5, 1)), edit(put(1, 1, 0)),
			edit(put(0, 1, 0), put(1, 2, 0)), edit(put(2, 3, 0), put(0, 1, 0)), edit(put(0, 1, 0), put(3, 3, 0)),
			edit(put(math.MinInt, math.MaxInt, 1)), edit(put(math.MaxInt, math.MinInt, 1)), edit(put(0, math.MaxInt, 0)),
			edit(put(math.MinInt, 0, 0)), edit(put(0, 0, 4096), put(5, 5, 1)), edit(put(2, 1, 4097)), make([]api.Splice, 100000),
		},
		api.ErrLarge: {
			edit(put(0, 0, 4097)), edit(put(0, 4, 4097)), edit(put(0, 0, 4096)), edit(put(0, 3, 4096)),
			edit(put(0, 1, 4000), put(2, 2, 4000), put(4, 4, 4000)), edit(put(0, 0, 4097), put(0, 0, 0)),
		},
	}
}

func TestErrorsOfTheEdit(t *testing.T) {
	for want, all := range wrongs() {
		for _, e := range all {
			if err := splice.Check(4, e); err != want {
				t.Fatalf("Check(4, %s): %v, not %v", brief(e), err, want)
			}
			for k := range 5 {
				checkMoveError(t, 4, e, k, want)
			}
			// The edit's error is told first.
			for _, k := range append([]int{5, 4097}, odd...) {
				checkMoveError(t, 4, e, k, want)
			}
			checkMovedError(t, 4, e, want)
		}
	}
	for _, n := range append([]int{4097}, odd...) {
		for _, e := range [][]api.Splice{nil, edit(put(0, 0, 1)), edit(put(2, 1, 1)), edit(put(0, 0, 4097))} {
			for _, k := range []int{0, 1, n, -1} {
				checkMoveError(t, n, e, k, api.ErrArg)
			}
			checkMovedError(t, n, e, api.ErrArg)
		}
	}
}

func TestSetAndGet(t *testing.T) {
	for name := 'a'; name <= 'z'; name++ {
		for _, k := range []int{0, 1, 5, 200, 4095, 4096} {
			// What the other names have stays, whatever it is.
			var was api.Marks
			for i := range was {
				was[i] = odd[i%len(odd)]
			}
			want := was
			want[name-'a'] = k + 1
			m, err := mark.Set(was, int(name), k)
			if m != want || err != api.OK {
				t.Fatalf("Set(%v, %q, %d): %v %v", was, name, k, m, err)
			}
			if got, err := mark.Get(m, int(name)); got != k || err != api.OK {
				t.Fatalf("Get(%v, %q): %d %v", m, name, got, err)
			}
			again, err := mark.Set(m, int(name), 7)
			want[name-'a'] = 8
			if again != want || err != api.OK {
				t.Fatalf("Set(%v, %q, 7): %v %v", m, name, again, err)
			}
		}
	}
}

func TestSetErrors(t *testing.T) {
	m := api.Marks{0: 3, 25: 9}
	for _, name := range append([]int{0, 1, 26, 'A', 'Z', 'a' - 1, 'z' + 1, 'a' + 256, 'a' + 1<<32, 'ä', ' ', '0'}, odd...) {
		for _, k := range append([]int{0, 5, 4096, 4097}, odd...) {
			if all, err := mark.Set(m, name, k); all != (api.Marks{}) || err != api.ErrKey {
				t.Fatalf("Set of %d to %d: %v %v", name, k, all, err)
			}
		}
		if k, err := mark.Get(m, name); k != 0 || err != api.ErrKey {
			t.Fatalf("Get of %d: %d %v", name, k, err)
		}
	}
	for _, k := range append([]int{4097}, odd...) {
		for _, name := range []int{'a', 'm', 'z'} {
			if all, err := mark.Set(m, name, k); all != (api.Marks{}) || err != api.ErrArg {
				t.Fatalf("Set of %d to %d: %v %v", name, k, all, err)
			}
		}
	}
}

func TestGetOfWhatIsNotSet(t *testing.T) {
	for i := range 26 {
		for _, c := range append([]int{0}, odd...) {
			m := api.Marks{}
			for j := range m {
				m[j] = 5
			}
			m[i] = c
			if k, err := mark.Get(m, 'a'+i); k != 0 || err != api.ErrNone {
				t.Fatalf("Get(%v, %d): %d %v", m, 'a'+i, k, err)
			}
		}
		m := api.Marks{}
		m[i] = 4097
		if k, err := mark.Get(m, 'a'+i); k != 4096 || err != api.OK {
			t.Fatalf("Get(%v, %d): %d %v", m, 'a'+i, k, err)
		}
		m[i] = 1
		if k, err := mark.Get(m, 'a'+i); k != 0 || err != api.OK {
			t.Fatalf("Get(%v, %d): %d %v", m, 'a'+i, k, err)
		}
	}
}

func TestMoved(t *testing.T) {
	e := edit(put(1, 3, 1), put(5, 5, 2))
	m := api.Marks{0: 1, 1: 2, 2: 3, 3: 4, 4: 5, 5: 6, 6: 7, 25: 6}
	checkMoved(t, 6, e, m, api.Marks{0: 1, 1: 3, 2: 3, 3: 3, 4: 4, 5: 7, 6: 8, 25: 7})
	// Nothing is done, and still a mark beyond the line goes.
	checkMoved(t, 6, nil, m, m)
	checkMoved(t, 5, nil, m, api.Marks{0: 1, 1: 2, 2: 3, 3: 4, 4: 5, 5: 6, 25: 6})
	checkMoved(t, 0, nil, m, api.Marks{0: 1})
	checkMoved(t, 6, e, api.Marks{}, api.Marks{})
	// It goes even where the line becomes as long as its place.
	checkMoved(t, 2, edit(put(2, 2, 50)), api.Marks{0: 3, 1: 4, 2: 40}, api.Marks{0: 53})
	// It stays even where the line becomes shorter.
	checkMoved(t, 4, edit(put(0, 4, 0)), api.Marks{3: 5, 4: 3, 5: 6}, api.Marks{3: 1, 4: 1})
	checkMoved(t, 0, edit(put(0, 0, 1)), api.Marks{0: 1}, api.Marks{0: 2})
}

func TestMovedOfWhatIsNotSet(t *testing.T) {
	for _, n := range []int{0, 1, 6, 4096} {
		for _, e := range [][]api.Splice{nil, edit(put(0, n, 1))} {
			for _, c := range append([]int{0, n + 2, n + 3, 4098}, odd...) {
				for i := range 26 {
					m := api.Marks{}
					for j := range m {
						m[j] = n + 1
					}
					m[i] = c
					want := wantMoved(n, e, m)
					if want[i] != 0 {
						t.Fatal(want)
					}
					checkMoved(t, n, e, m, want)
				}
			}
		}
	}
}

// Marks of a line that is edited time and again stay with their characters.
func TestMarksGoWithTheLine(t *testing.T) {
	r := rand.New(rand.NewSource(11))
	l := numbers(1, 60)
	var m api.Marks
	for i := range m {
		m, _ = mark.Set(m, 'a'+i, 2*i)
	}
	fresh := 1000
	for range 20 {
		e := someEdit(r, len(l), 30)
		for i := range e {
			e[i].Text = numbers(fresh, len(e[i].Text))
			fresh += len(e[i].Text)
		}
		l, _ = splice.Apply(l, e)
		var err api.Errno
		if m, err = mark.Moved(wasLong(l, e), e, m); err != api.OK {
			t.Fatal(err)
		}
		for i := range m {
			k, err := mark.Get(m, 'a'+i)
			if err != api.OK || k > len(l) {
				t.Fatal(k, err)
			}
			if at := slices.Index(l, 2*i+1); at >= 0 && at != k {
				t.Fatalf("%v: %d at %d", l, 2*i+1, k)
			}
		}
	}
}

// wasLong is how long the line was that became l.
func wasLong(l []int, e []api.Splice) int {
	n := len(l)
	for _, s := range e {
		n += s.To - s.From - len(s.Text)
	}
	return n
}

func TestWhatIsHandedInStaysAsItWas(t *testing.T) {
	x := []int{-7, 50, 51, -8, -8}
	make4 := func() []api.Splice {
		return edit(api.Splice{From: 0, To: 1, Text: x[1:3]}, api.Splice{From: 3, To: 5, Text: x[1:1]},
			api.Splice{From: 6, To: 6, Text: x[1:2]}, put(9, 9, 3))
	}
	e := make4()
	m := api.Marks{0: 1, 3: 7, 9: -4, 25: 9}
	was := m
	for range 2 {
		checkMove(t, 8, e[:3], 7, false, 7)
		checkMove(t, 8, e[:3], 4, true, 4)
		checkMoved(t, 8, e[:3], m, api.Marks{0: 3, 3: 7, 25: 9})
		if all, err := mark.Set(m, 'd', 1); all[3] != 2 || err != api.OK {
			t.Error(all, err)
		}
		if k, err := mark.Get(m, 'd'); k != 6 || err != api.OK {
			t.Error(k, err)
		}
		checkMoveError(t, 8, e, 0, api.ErrForm)
		checkMovedError(t, 8, e, api.ErrForm)
		if !reflect.DeepEqual(e, make4()) || !slices.Equal(x, []int{-7, 50, 51, -8, -8}) || m != was {
			t.Fatal(e, x, m)
		}
	}
}

// What is changed behind a call is seen by the next call, and nothing else is.
func TestNothingIsKeptFromCallToCall(t *testing.T) {
	e := edit(put(1, 2, 2), put(4, 4, 1))
	for k := range 6 {
		e[0].Text = numbers(10000, k)
		e[1].From, e[1].To = 3+k%2, 4+k%3
		checkEdit(t, 6, e)
		checkMoveError(t, 6, edit(put(3, 1, 0)), k, api.ErrForm)
		checkMoveError(t, 6, e, 7, api.ErrArg)
		checkEdit(t, 6, e)
	}
}
