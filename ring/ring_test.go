package ring_test

import (
	"errors"
	"fmt"
	"math"
	"math/rand"
	"runtime"
	"slices"
	"sync"
	"testing"
	"unsafe"
	"weak"

	"fairhand/api"
	"fairhand/ring"
)

// The calls are as the document lists them.
var (
	_ func(int) *ring.Ring[string]                    = ring.New[string]
	_ func(*ring.Ring[string]) int                    = (*ring.Ring[string]).Len
	_ func(*ring.Ring[string], string) (string, bool) = (*ring.Ring[string]).Push
	_ func(*ring.Ring[string], int) (string, bool)    = (*ring.Ring[string]).At
	_ func(*ring.Ring[string]) []string               = (*ring.Ring[string]).List
)

// mostRoom is the room of each ring for which more was asked.
const mostRoom = 65536

// odd are numbers of things that no ring has room for, and some below 0.
var odd = []int{math.MinInt, math.MinInt + 1, math.MinInt32, -1 << 32, -1<<32 + 1, -65537, -65536, -65535, -2, -1,
	mostRoom, mostRoom + 1, 2 * mostRoom, math.MaxInt32, 1 << 32, 1<<32 + 1, math.MaxInt - 1, math.MaxInt}

// list is a second telling of a ring: all that is there, the oldest first, and
// how many there may be.
type list[T any] struct {
	things []T
	room   int
}

func roomFor(most int) int {
	switch {
	case most < 0:
		return 0
	case most > mostRoom:
		return mostRoom
	}
	return most
}

// push puts the thing behind the others and then drives out the first, if
// there are too many.
func (l *list[T]) push(x T) (gone T, ok bool) {
	l.things = append(l.things, x)
	if len(l.things) > l.room {
		gone, ok = l.things[0], true
		l.things = l.things[1:]
	}
	return gone, ok
}

func (l *list[T]) at(k int) (x T, ok bool) {
	for i, y := range l.things {
		if i == k {
			x, ok = y, true
		}
	}
	return x, ok
}

// brief keeps what is told of long lists to some of it.
func brief(list any) string {
	s := fmt.Sprint(list)
	return s[:min(len(s), 300)]
}

// both is a ring, and what it has to be like.
type both[T comparable] struct {
	r    *ring.Ring[T]
	want list[T]
}

func newBoth[T comparable](most int) *both[T] {
	return &both[T]{r: ring.New[T](most), want: list[T]{room: roomFor(most)}}
}

func (b *both[T]) push(t *testing.T, x T) {
	t.Helper()
	gone, ok := b.r.Push(x)
	wantGone, wantOk := b.want.push(x)
	if gone != wantGone || ok != wantOk {
		t.Fatalf("room %d, Push(%v): %v %v, not %v %v", b.want.room, x, gone, ok, wantGone, wantOk)
	}
	if b.r.Len() != len(b.want.things) {
		t.Fatalf("room %d, behind Push(%v): Len %d, not %d", b.want.room, x, b.r.Len(), len(b.want.things))
	}
}

func (b *both[T]) checkAt(t *testing.T, k int) {
	t.Helper()
	x, ok := b.r.At(k)
	wantX, wantOk := b.want.at(k)
	if x != wantX || ok != wantOk {
		t.Fatalf("room %d, At(%d) of %d: %v %v, not %v %v", b.want.room, k, b.r.Len(), x, ok, wantX, wantOk)
	}
}

// check looks at all that a ring tells.
func (b *both[T]) check(t *testing.T) {
	t.Helper()
	if b.r.Len() != len(b.want.things) {
		t.Fatalf("room %d: Len %d, not %d", b.want.room, b.r.Len(), len(b.want.things))
	}
	if got := b.r.List(); !slices.Equal(got, b.want.things) {
		t.Fatalf("room %d: %s, not %s", b.want.room, brief(got), brief(b.want.things))
	}
	for k := -3; k <= len(b.want.things)+3; k++ {
		b.checkAt(t, k)
	}
	for _, k := range odd {
		b.checkAt(t, k)
		b.checkAt(t, k+b.want.room)
	}
}

// The document's own example, and what stands beside it.
func TestSecondDrivesOutTheFirst(t *testing.T) {
	r := ring.New[string](1)
	if gone, ok := r.Push("a"); gone != "" || ok {
		t.Error(gone, ok)
	}
	if gone, ok := r.Push("b"); gone != "a" || !ok {
		t.Error(gone, ok)
	}
	if x, ok := r.At(0); x != "b" || !ok {
		t.Error(x, ok)
	}
	if got := r.List(); !slices.Equal(got, []string{"b"}) || r.Len() != 1 {
		t.Error(got, r.Len())
	}
}

func TestNewHasNothingYet(t *testing.T) {
	for _, most := range slices.Concat([]int{0, 1, 2, 3, 50, mostRoom - 1}, odd) {
		b := newBoth[int](most)
		b.check(t)
		if b.r == nil || b.r.Len() != 0 || len(b.r.List()) != 0 {
			t.Errorf("%d: %v", most, b.r)
		}
	}
}

func TestRoomForNone(t *testing.T) {
	for _, most := range []int{0, -1, -2, -65536, -1 << 32, -1<<32 + 1, math.MinInt32, math.MinInt + 1, math.MinInt} {
		r := ring.New[string](most)
		for _, s := range []string{"a", "", "b", "b"} {
			if gone, ok := r.Push(s); gone != s || !ok {
				t.Errorf("%d, Push(%q): %q %v", most, s, gone, ok)
			}
			if x, ok := r.At(0); x != "" || ok || r.Len() != 0 || len(r.List()) != 0 {
				t.Errorf("%d: %q %v, Len %d, %q", most, x, ok, r.Len(), r.List())
			}
		}
	}
}

func TestFullRings(t *testing.T) {
	for _, test := range []struct {
		most   int
		pushed []string
		gone   []string
		want   []string
	}{
		{1, []string{"a"}, nil, []string{"a"}},
		{1, []string{"a", "b", "c"}, []string{"a", "b"}, []string{"c"}},
		{2, []string{"a"}, nil, []string{"a"}},
		{2, []string{"a", "b"}, nil, []string{"a", "b"}},
		{2, []string{"a", "b", "c"}, []string{"a"}, []string{"b", "c"}},
		{2, []string{"a", "b", "c", "d", "e"}, []string{"a", "b", "c"}, []string{"d", "e"}},
		{3, []string{"a", "b", "c", "d"}, []string{"a"}, []string{"b", "c", "d"}},
		{3, []string{"a", "b", "c", "d", "e", "f", "g"}, []string{"a", "b", "c", "d"}, []string{"e", "f", "g"}},
		{7, []string{"a", "b", "c"}, nil, []string{"a", "b", "c"}},
		// Things that are alike are as many things; the zero value is one, too.
		{2, []string{"a", "a", "a"}, []string{"a"}, []string{"a", "a"}},
		{2, []string{"", "", ""}, []string{""}, []string{"", ""}},
		{2, []string{"", "a", ""}, []string{""}, []string{"a", ""}},
	} {
		r := ring.New[string](test.most)
		var gone []string
		for _, s := range test.pushed {
			if old, ok := r.Push(s); ok {
				gone = append(gone, old)
			} else if old != "" {
				t.Errorf("room %d, Push(%q): %q, but nothing went", test.most, s, old)
			}
		}
		if !slices.Equal(gone, test.gone) || !slices.Equal(r.List(), test.want) || r.Len() != len(test.want) {
			t.Errorf("room %d, %q: %q went, not %q; %q, not %q", test.most, test.pushed, gone, test.gone, r.List(), test.want)
		}
		for k, s := range test.want {
			if x, ok := r.At(k); x != s || !ok {
				t.Errorf("room %d, %q: At(%d) %q %v, not %q", test.most, test.pushed, k, x, ok, s)
			}
		}
		for _, k := range []int{-1, len(test.want), -len(test.want), test.most, math.MinInt, math.MaxInt, 1 << 32} {
			if x, ok := r.At(k); x != "" || ok {
				t.Errorf("room %d, %q: At(%d) %q %v", test.most, test.pushed, k, x, ok)
			}
		}
	}
}

// Each room of a few, with many things, no two alike or all alike.
func TestAllSmallRings(t *testing.T) {
	for most := -2; most <= 40; most++ {
		for _, first := range []int{0, 1} {
			b := newBoth[int](most)
			for x := range 4*max(most, 0) + 5 {
				b.push(t, first*(x+1))
				b.check(t)
			}
		}
	}
}

// Few things of a small set, in all orders, with all rooms.
func TestAllShortRuns(t *testing.T) {
	for most := range 5 {
		for length := range 8 {
			runs := 1
			for range length {
				runs *= 3
			}
			for run := range runs {
				b := newBoth[int](most)
				for left, n := run, length; n > 0; left, n = left/3, n-1 {
					b.push(t, left%3)
				}
				b.check(t)
			}
		}
	}
}

func TestRandomRuns(t *testing.T) {
	rnd := rand.New(rand.NewSource(48))
	for range 300 {
		b := newBoth[int](rnd.Intn(70) - 3)
		for range rnd.Intn(400) {
			b.push(t, rnd.Intn(10)-2)
			switch rnd.Intn(8) {
			case 0:
				b.checkAt(t, rnd.Intn(90)-10)
			case 1:
				if got := b.r.List(); !slices.Equal(got, b.want.things) {
					t.Fatalf("room %d: %v, not %v", b.want.room, got, b.want.things)
				}
			}
		}
		b.check(t)
	}
}

// numbered looks whether a ring has just the things from first on, each one
// greater by one, without going along a second list.
func numbered(t *testing.T, r *ring.Ring[int], first, count int) {
	t.Helper()
	l := r.List()
	if r.Len() != count || len(l) != count {
		t.Fatalf("Len %d, List of %d, not %d", r.Len(), len(l), count)
	}
	for k := range count {
		if x, ok := r.At(k); x != first+k || !ok || l[k] != first+k {
			t.Fatalf("At(%d) %d %v, of List %d, not %d", k, x, ok, l[k], first+k)
		}
	}
	for _, k := range slices.Concat(odd[:10], []int{count, count + 1, 1 << 32, 1<<32 + 1, math.MaxInt}) {
		if x, ok := r.At(k); x != 0 || ok {
			t.Fatalf("At(%d) of %d: %d %v", k, count, x, ok)
		}
	}
}

// The greatest room, and what is just below and above it.
func TestMostRoom(t *testing.T) {
	for _, most := range []int{mostRoom - 1, mostRoom, mostRoom + 1, mostRoom + 2, 2 * mostRoom, 1 << 32, 1<<32 + 7, math.MaxInt - 1, math.MaxInt} {
		r, room := ring.New[int](most), min(most, mostRoom)
		for x := range room {
			if gone, ok := r.Push(x); gone != 0 || ok {
				t.Fatalf("%d, Push(%d): %d %v", most, x, gone, ok)
			}
		}
		numbered(t, r, 0, room)
		for x := range 2*room + 3 {
			if gone, ok := r.Push(room + x); gone != x || !ok {
				t.Fatalf("%d, Push(%d): %d %v", most, room+x, gone, ok)
			}
			if x == 0 || x == room-1 || x == room {
				numbered(t, r, x+1, room)
			}
		}
		numbered(t, r, 2*room+3, room)
	}
}

// A ring of great things with much room is there at once, whatever its things
// would take if it were full.
func TestGreatThings(t *testing.T) {
	type great [1 << 20]int
	r := ring.New[great](math.MaxInt)
	if _, ok := r.At(0); ok || r.Len() != 0 || len(r.List()) != 0 {
		t.Error(r.Len())
	}
	if _, ok := r.Push(great{5: 7}); ok || r.Len() != 1 {
		t.Error(r.Len(), ok)
	}
	if x, ok := r.At(0); x[5] != 7 || !ok {
		t.Error(x[5], ok)
	}
	none := ring.New[great](0)
	if x, ok := none.Push(great{5: 7}); x[5] != 7 || !ok {
		t.Error(x[5], ok)
	}
}

// checkThings: four things of any type in rings of several rooms.
func checkThings[T any](t *testing.T, equal func(a, b T) bool, a, b, c, d T) {
	t.Helper()
	var zero T
	for room := range 6 {
		r, want := ring.New[T](room), list[T]{room: room}
		for _, x := range []T{a, b, c, d, zero, a, a, d, c, b} {
			gone, ok := r.Push(x)
			wantGone, wantOk := want.push(x)
			if !equal(gone, wantGone) || ok != wantOk || r.Len() != len(want.things) {
				t.Fatalf("%T, room %d: %v %v, not %v %v", a, room, gone, ok, wantGone, wantOk)
			}
			if got := r.List(); !slices.EqualFunc(got, want.things, equal) {
				t.Fatalf("%T, room %d: %v, not %v", a, room, got, want.things)
			}
			for k := -2; k < room+2; k++ {
				got, ok := r.At(k)
				wanted, wantOk := want.at(k)
				if !equal(got, wanted) || ok != wantOk {
					t.Fatalf("%T, room %d, At(%d): %v %v, not %v %v", a, room, k, got, ok, wanted, wantOk)
				}
			}
		}
	}
}

func checkComparable[T comparable](t *testing.T, a, b, c, d T) {
	t.Helper()
	checkThings(t, func(a, b T) bool { return a == b }, a, b, c, d)
}

func TestThingsOfAnyType(t *testing.T) {
	type pair struct {
		name string
		at   *int
	}
	x, y := 1, 1
	checkComparable(t, 1, 2, 3, 4)
	checkComparable(t, "a", "b", "c", "d")
	checkComparable(t, true, false, true, false)
	checkComparable(t, uint8(1), 255, 0, 7)
	checkComparable(t, 1.5, math.Inf(1), -0.25, math.MaxFloat64)
	checkComparable(t, complex(1, 2), 2, 3i, 4)
	checkComparable(t, [3]int{1}, [3]int{2}, [3]int{0, 0, 1}, [3]int{3, 2, 1})
	checkComparable(t, struct{}{}, struct{}{}, struct{}{}, struct{}{})
	checkComparable(t, [0]int{}, [0]int{}, [0]int{}, [0]int{})
	checkComparable(t, &x, &y, nil, new(int))
	checkComparable(t, pair{"a", &x}, pair{"a", &y}, pair{}, pair{"b", nil})
	checkComparable(t, api.OK, api.ErrArg, api.ErrClash, api.Errno(-1))
	checkComparable[any](t, 1, "a", nil, &x)
	checkComparable[error](t, errors.New("a"), nil, errors.New("a"), errors.New("b"))
	checkComparable(t, make(chan int), nil, make(chan int), make(chan int, 1))
	checkComparable(t, api.Marks{1}, api.Marks{2}, api.Marks{}, api.Marks{25: 3})
	checkComparable(t, ring.New[int](1), ring.New[int](1), nil, ring.New[int](2))
	// A thing that is not even like itself.
	sameBits := func(a, b float64) bool { return math.Float64bits(a) == math.Float64bits(b) }
	checkThings(t, sameBits, math.NaN(), 0, math.Copysign(0, -1), math.NaN())
}

// A ring keeps the things themselves, not copies of what they lead to.
func TestTheThingsThemselvesAreKept(t *testing.T) {
	memory := []int{1, 2, 3, 4, 5, 6, 7, 8, 9, 10}
	sameList := func(a, b []int) bool {
		return unsafe.SliceData(a) == unsafe.SliceData(b) && len(a) == len(b) && cap(a) == cap(b) && (a == nil) == (b == nil)
	}
	checkThings(t, sameList, memory[:2], memory[2:2], nil, memory[5:9:9])
	checkThings(t, sameList, nil, []int{}, memory, memory[:0])
	sameLine := func(a, b api.Line) bool { return a.At == b.At && sameList(a.Text, b.Text) }
	checkThings(t, sameLine, api.Line{Text: memory[:3], At: 2}, api.Line{}, api.Line{Text: memory, At: -1}, api.Line{At: 7})
	m, n := map[int]int{1: 1}, map[int]int{1: 1}
	sameMap := func(a, b map[int]int) bool { return fmt.Sprintf("%p", a) == fmt.Sprintf("%p", b) }
	checkThings(t, sameMap, m, nil, n, m)
	if !slices.Equal(memory, []int{1, 2, 3, 4, 5, 6, 7, 8, 9, 10}) {
		t.Error(memory)
	}
	// What is changed behind a ring's back is seen through it.
	r := ring.New[[]int](2)
	l := []int{1}
	r.Push(l)
	l[0] = 9
	if x, _ := r.At(0); x[0] != 9 || r.List()[0][0] != 9 {
		t.Error(x)
	}
}

// No function among the things is called, and no thing is looked into: those
// that can't be held against each other are as good as others.
func TestThingsAreNotLookedInto(t *testing.T) {
	bad := func() { t.Error("called") }
	r := ring.New[any](3)
	for _, x := range []any{bad, []int{1}, map[string]func(){"a": bad}, bad, []int{2}} {
		r.Push(x)
	}
	if x, ok := r.At(0); r.Len() != 3 || len(r.List()) != 3 || x == nil || !ok {
		t.Error(r.Len(), x)
	}
	f := ring.New[func()](1)
	f.Push(bad)
	if old, ok := f.Push(nil); old == nil || !ok || f.List()[0] != nil {
		t.Error(f.Len(), ok)
	}
}

// One that was not made by New has room for none.
func TestRingThatWasNotMadeByNew(t *testing.T) {
	var r ring.Ring[int]
	for _, k := range slices.Concat([]int{0, 1}, odd) {
		if x, ok := r.At(k); x != 0 || ok || r.Len() != 0 || len(r.List()) != 0 {
			t.Error(k, x, ok, r.Len())
		}
		if gone, ok := r.Push(k); gone != k || !ok {
			t.Error(k, gone, ok)
		}
	}
}

// What is told is not changed by asking, however often.
func TestAskingChangesNothing(t *testing.T) {
	b := newBoth[int](5)
	for x := range 13 {
		b.push(t, x+1)
		for range 3 {
			b.check(t)
			b.checkAt(t, x)
		}
	}
}

// write writes into all the memory of each list, and looks then whether another
// one of them has changed.
func write(t *testing.T, lists [][]int) {
	t.Helper()
	for i, l := range lists {
		l = l[:cap(l)]
		for at := range l {
			l[at] = -100 - i
		}
	}
	for i, l := range lists {
		for _, x := range l[:cap(l)] {
			if x != -100-i {
				t.Fatalf("list %d shares its memory", i)
			}
		}
	}
}

func TestListsAreNewMemory(t *testing.T) {
	for most := range 12 {
		b := newBoth[int](most)
		var lists, were [][]int
		for x := range 4*most + 3 {
			b.push(t, x+1)
			for range 2 {
				lists = append(lists, b.r.List())
				were = append(were, slices.Clone(b.want.things))
			}
		}
		// What a ring does later is not seen in what it told.
		for i, l := range lists {
			if !slices.Equal(l, were[i]) {
				t.Fatalf("room %d, list %d: %v was %v", most, i, l, were[i])
			}
		}
		write(t, lists)
		b.check(t)
		// And what is done to the lists is not seen in what the ring tells yet.
		for x := range most + 2 {
			b.push(t, -x)
			b.check(t)
		}
	}
}

// Nothing that is not there any more, and nothing that is not the list's own,
// stands behind it.
func TestNothingStandsBehindAList(t *testing.T) {
	for room := range 20 {
		r := ring.New[*int](room)
		for range 3*room + 2 {
			r.Push(new(int))
			l := r.List()
			for _, p := range l[len(l):cap(l)] {
				if p != nil {
					t.Fatalf("room %d: something stands behind %d things", room, len(l))
				}
			}
		}
	}
}

// Rings do not know of each other, even if they are of one type and one room.
func TestRingsShareNothing(t *testing.T) {
	rnd := rand.New(rand.NewSource(49))
	var rings []*both[int]
	for i := range 20 {
		rings = append(rings, newBoth[int](i%5))
	}
	for x := range 2000 {
		rings[rnd.Intn(len(rings))].push(t, x)
	}
	for _, b := range rings {
		b.check(t)
	}
}

// thing is one that is seen to go.
type thing struct {
	name string
	next *thing
}

// fill pushes so many things that nobody but the ring knows, and watches them.
func fill(r *ring.Ring[*thing], count int) (watched []weak.Pointer[thing]) {
	for range count {
		x := &thing{name: "x"}
		watched = append(watched, weak.Make(x))
		r.Push(x)
	}
	return watched
}

// A thing that went is kept no longer.
func TestWhatGoesIsGone(t *testing.T) {
	for _, room := range []int{0, 1, 2, 3, 5, 8, 20} {
		r := ring.New[*thing](room)
		watched := fill(r, 3*room+4)
		runtime.GC()
		for i, p := range watched {
			if there := i >= len(watched)-room; (p.Value() != nil) != there {
				t.Errorf("room %d: thing %d of %d there: %v, not %v", room, i, len(watched), !there, there)
			}
		}
		runtime.KeepAlive(r)
	}
}

// Each goroutine has a ring of its own.
func TestManyRingsAtOneTime(t *testing.T) {
	wrong := make([]int, 8)
	var hands sync.WaitGroup
	for hand := range wrong {
		hands.Go(func() {
			r, want := ring.New[int](5), list[int]{room: 5}
			for x := range 2000 {
				gone, ok := r.Push(x * hand)
				wantGone, wantOk := want.push(x * hand)
				if gone != wantGone || ok != wantOk || !slices.Equal(r.List(), want.things) {
					wrong[hand]++
				}
			}
		})
	}
	hands.Wait()
	for hand, count := range wrong {
		if count > 0 {
			t.Errorf("hand %d: %d times", hand, count)
		}
	}
}
