package rope_test

import (
	"math"
	"math/rand"
	"reflect"
	"slices"
	"testing"

	"fairhand/api"
	"fairhand/rope"
)

// numbers: so many, no two alike, from first on.
func numbers(first, count int) []int {
	l := make([]int, count)
	for i := range l {
		l[i] = first + i
	}
	return l
}

// made is a rope of l, which must not be too long.
func made(t *testing.T, l []int) rope.Rope {
	t.Helper()
	r, err := rope.Of(l)
	if err != api.OK {
		t.Fatalf("Of(%d numbers): %v", len(l), err)
	}
	return r
}

// least numbers that a rope of that Tall has: the document's LEAST.
func least(tall int) int {
	if tall < 2 {
		return tall
	}
	return 1 + least(tall-1) + least(tall-2)
}

// hold r against the list that it must have, in all that can be asked of it
// without going through all its places one by one.
func hold(t *testing.T, what string, r rope.Rope, want []int) {
	t.Helper()
	if r.Len() != len(want) {
		t.Fatalf("%s: Len %d, not %d", what, r.Len(), len(want))
	}
	if got := r.List(); !slices.Equal(got, want) {
		t.Fatalf("%s: List %v, not %v", what, got, want)
	}
	// A node has one number and at most two nodes right beneath it, so that
	// t of them one beneath the other make fewer than 2^t.
	if tall := r.Tall(); tall < 0 || tall > 17 || len(want) < least(tall) || len(want) >= 1<<tall {
		t.Fatalf("%s: %d numbers are Tall %d", what, len(want), tall)
	}
}

// refused: nothing beside the error.
func refused(t *testing.T, what string, got, want api.Errno, answers ...rope.Rope) {
	t.Helper()
	if got != want {
		t.Fatalf("%s: error %v, not %v", what, got, want)
	}
	for _, r := range answers {
		if r != (rope.Rope{}) {
			t.Fatalf("%s: %v beside the error", what, r.List())
		}
	}
}

// holdPlaces: At, Split, Slice and Put at all places, and around them.
func holdPlaces(t *testing.T, r, o rope.Rope) {
	t.Helper()
	l, other := r.List(), o.List()
	for from := -2; from <= len(l)+2; from++ {
		holdAt(t, r, l, from)
		holdSplit(t, r, l, from)
		for to := -2; to <= len(l)+2; to++ {
			holdSlice(t, r, l, from, to)
			holdPut(t, r, l, from, to, o, other)
		}
	}
}

func holdAt(t *testing.T, r rope.Rope, l []int, k int) {
	t.Helper()
	c, err := r.At(k)
	if k < 0 || k >= len(l) {
		if c != 0 || err != api.ErrArg {
			t.Fatalf("At(%d) of %d: %d, %v", k, len(l), c, err)
		}
	} else if c != l[k] || err != api.OK {
		t.Fatalf("At(%d) of %v: %d, %v", k, l, c, err)
	}
}

func holdSplit(t *testing.T, r rope.Rope, l []int, k int) {
	t.Helper()
	first, others, err := r.Split(k)
	if k < 0 || k > len(l) {
		refused(t, "Split", err, api.ErrArg, first, others)
		return
	}
	refused(t, "Split", err, api.OK)
	hold(t, "Split's first", first, l[:k])
	hold(t, "Split's others", others, l[k:])
}

func holdSlice(t *testing.T, r rope.Rope, l []int, from, to int) {
	t.Helper()
	s, err := r.Slice(from, to)
	if from < 0 || to < from || len(l) < to {
		refused(t, "Slice", err, api.ErrArg, s)
		return
	}
	refused(t, "Slice", err, api.OK)
	hold(t, "Slice", s, l[from:to])
}

func holdPut(t *testing.T, r rope.Rope, l []int, from, to int, o rope.Rope, other []int) {
	t.Helper()
	p, err := r.Put(from, to, o)
	if from < 0 || to < from || len(l) < to {
		refused(t, "Put", err, api.ErrArg, p)
		return
	}
	var want []int
	want = append(want, l[:from]...)
	want = append(want, other...)
	want = append(want, l[to:]...)
	if len(want) > api.MaxText {
		refused(t, "Put", err, api.ErrLarge, p)
		return
	}
	refused(t, "Put", err, api.OK)
	hold(t, "Put", p, want)
}

func holdJoin(t *testing.T, r rope.Rope, l []int, o rope.Rope, other []int) {
	t.Helper()
	j, err := r.Join(o)
	if len(l)+len(other) > api.MaxText {
		refused(t, "Join", err, api.ErrLarge, j)
		return
	}
	refused(t, "Join", err, api.OK)
	hold(t, "Join", j, append(slices.Clone(l), other...))
}

func holdEach(t *testing.T, r rope.Rope, l []int) {
	t.Helper()
	next := 0
	r.Each(func(at, c int) bool {
		if at != next || at >= len(l) || c != l[at] {
			t.Fatalf("Each of %v: %d at %d as number %d", l, c, at, next)
		}
		next++
		return true
	})
	if next != len(l) {
		t.Fatalf("Each of %v: %d calls", l, next)
	}
}

// P15

func TestLeast(t *testing.T) {
	var got []int
	for tall := range 10 {
		got = append(got, least(tall))
	}
	if want := []int{0, 1, 2, 4, 7, 12, 20, 33, 54, 88}; !slices.Equal(got, want) {
		t.Error(got)
	}
}

func TestRopesOfAllLengths(t *testing.T) {
	for count := 0; count <= api.MaxText; count++ {
		l := numbers(count, count)
		hold(t, "Of", made(t, l), l)
	}
}

func TestTallOfAFew(t *testing.T) {
	for count, tall := range []int{0, 1, 2, 2} {
		if got := made(t, numbers(7, count)).Tall(); got != tall {
			t.Errorf("%d numbers are Tall %d, not %d", count, got, tall)
		}
	}
}

func TestNothingInARope(t *testing.T) {
	empties := map[string]rope.Rope{
		"Rope{}":   {},
		"of nil":   made(t, nil),
		"of empty": made(t, []int{}),
	}
	empties["cut"], _, _ = made(t, []int{1, 2}).Split(0)
	empties["sliced"], _ = made(t, []int{1, 2}).Slice(1, 1)
	empties["taken"], _ = made(t, []int{1, 2}).Put(0, 2, rope.Rope{})
	for what, r := range empties {
		hold(t, what, r, nil)
		if r.Tall() != 0 {
			t.Errorf("%s: Tall %d", what, r.Tall())
		}
		holdPlaces(t, r, rope.Rope{})
		holdPlaces(t, r, made(t, []int{1, 2, 3}))
		holdJoin(t, r, nil, rope.Rope{}, nil)
		holdEach(t, r, nil)
	}
}

func TestTooManyNumbers(t *testing.T) {
	for _, more := range []int{1, 2, 1000} {
		r, err := rope.Of(make([]int, api.MaxText+more))
		refused(t, "Of", err, api.ErrLarge, r)
	}
}

// P16 to P18

func TestAllPlacesOfShortRopes(t *testing.T) {
	for count := range 14 {
		l := numbers(100, count)
		r := made(t, l)
		for _, others := range []int{0, 1, 2, 5, 12} {
			other := numbers(500, others)
			o := made(t, other)
			holdPlaces(t, r, o)
			holdJoin(t, r, l, o, other)
		}
		holdEach(t, r, l)
		hold(t, "what all was made of", r, l)
	}
}

func TestPlacesOfLongRopes(t *testing.T) {
	l := numbers(-2000, api.MaxText)
	r := made(t, l)
	for k := -1; k <= len(l)+1; k++ {
		holdAt(t, r, l, k)
		if k%37 < 3 || k > len(l)-3 {
			holdSplit(t, r, l, k)
			holdSlice(t, r, l, k, len(l)-k)
			holdSlice(t, r, l, k, k+3)
		}
	}
	holdEach(t, r, l)
}

func TestRoomForSoManyNumbers(t *testing.T) {
	lengths := []int{0, 1, 2, 2047, 2048, 2049, 4094, 4095, 4096}
	for _, a := range lengths {
		for _, b := range lengths {
			l, other := numbers(0, a), numbers(9000, b)
			r, o := made(t, l), made(t, other)
			holdJoin(t, r, l, o, other)
			holdPut(t, r, l, 0, 0, o, other)
			holdPut(t, r, l, a, a, o, other)
			holdPut(t, r, l, 0, a, o, other)
			holdPut(t, r, l, a/2, a, o, other)
			holdPut(t, r, l, min(a, 1), a/2+1, o, other)
			holdPut(t, r, l, 0, a+1, o, other)
			holdPut(t, r, l, a, a-1, o, other)
		}
	}
}

// The places are told of ahead of the length.
func TestWrongPlacesOfTooMuch(t *testing.T) {
	r := made(t, numbers(0, api.MaxText))
	for _, w := range [][2]int{{-1, 0}, {1, 0}, {0, api.MaxText + 1}, {math.MinInt, math.MaxInt}, {math.MaxInt, math.MinInt}} {
		p, err := r.Put(w[0], w[1], r)
		refused(t, "Put", err, api.ErrArg, p)
	}
	p, err := r.Put(0, api.MaxText-1, r)
	refused(t, "Put", err, api.ErrLarge, p)
}

func TestPlacesFarOutside(t *testing.T) {
	far := []int{math.MinInt, math.MinInt + 1, -1 << 32, -1, 0, 1, 3, 4, 1 << 32, math.MaxInt - 1, math.MaxInt}
	for _, l := range [][]int{nil, {5}, {5, 6, 7}} {
		r, other := made(t, l), []int{8, 9}
		o := made(t, other)
		for _, from := range far {
			holdAt(t, r, l, from)
			holdSplit(t, r, l, from)
			for _, to := range far {
				holdSlice(t, r, l, from, to)
				holdPut(t, r, l, from, to, o, other)
			}
		}
	}
}

func TestAnyNumberIsOne(t *testing.T) {
	l := []int{math.MaxInt, math.MinInt, 0, 0, -1, 0x10ffff, 0xd800, math.MaxInt, 1 << 40}
	r := made(t, l)
	hold(t, "Of", r, l)
	holdPlaces(t, r, r)
	holdJoin(t, r, l, r, l)
	holdEach(t, r, l)
}

func TestARopeJoinedWithItself(t *testing.T) {
	l := []int{1}
	r := made(t, l)
	for len(l) <= api.MaxText {
		holdJoin(t, r, l, r, l)
		r, _ = r.Join(r)
		l = append(l, l...)
	}
	hold(t, "what was too much", r, nil)
}

// However a rope was made, it is as low as it must be, and what was made
// ahead of it stays what it was.
func TestRopesMadeOfRopes(t *testing.T) {
	random := rand.New(rand.NewSource(5))
	for range 30 {
		ropes := []rope.Rope{{}}
		lists := [][]int{nil}
		keep := func(r rope.Rope, l []int) {
			hold(t, "made", r, l)
			ropes, lists = append(ropes, r), append(lists, l)
		}
		keep(made(t, numbers(0, 20)), numbers(0, 20))
		for range 60 {
			one, two := random.Intn(len(ropes)), random.Intn(len(ropes))
			r, l := ropes[one], lists[one]
			from := random.Intn(len(l) + 1)
			to := from + random.Intn(len(l)-from+1)
			if p, err := r.Put(from, to, ropes[two]); err == api.OK {
				keep(p, slices.Concat(l[:from], lists[two], l[to:]))
			}
			if j, err := r.Join(ropes[two]); err == api.OK && len(l) < 300 {
				keep(j, slices.Concat(l, lists[two]))
			}
			s, _ := r.Slice(from, to)
			keep(s, l[from:to])
			a, b, _ := r.Split(to)
			keep(a, l[:to])
			keep(b, l[to:])
		}
		for i, r := range ropes {
			hold(t, "kept", r, lists[i])
		}
	}
}

func TestRopesMadeOneByOne(t *testing.T) {
	var front, back, middle rope.Rope
	var fronts, backs, middles []int
	for i := range 700 {
		one := made(t, []int{i})
		front, _ = one.Join(front)
		fronts = append([]int{i}, fronts...)
		back, _ = back.Join(one)
		backs = append(backs, i)
		middle, _ = middle.Put(i/2, i/2, one)
		middles = slices.Insert(middles, i/2, i)
		hold(t, "at the front", front, fronts)
		hold(t, "at the back", back, backs)
		hold(t, "in the middle", middle, middles)
	}
	for len(middles) > 0 {
		at := len(middles) / 2
		middle, _ = middle.Put(at, at+1, rope.Rope{})
		middles = slices.Delete(middles, at, at+1)
		hold(t, "taken from the middle", middle, middles)
	}
}

// P18

func TestEachAsLongAsItIsAskedTo(t *testing.T) {
	for count := range 40 {
		l := numbers(3, count)
		r := made(t, l)
		for stop := range count {
			var got []int
			r.Each(func(at, c int) bool {
				got = append(got, c)
				return at != stop
			})
			if !slices.Equal(got, l[:stop+1]) {
				t.Fatalf("stopped at %d of %d: %v", stop, count, got)
			}
		}
	}
}

func TestEachIsRangedOver(t *testing.T) {
	l := numbers(20, 30)
	r := made(t, l)
	var got [][2]int
	for at, c := range r.Each {
		for within := range r.Each {
			if within == at {
				break
			}
			got = append(got, [2]int{at, within})
		}
		if c != l[at] {
			t.Fatal(at, c)
		}
		if at == 20 {
			break
		}
	}
	if len(got) != 20*21/2 {
		t.Error(len(got))
	}
	func() {
		for at := range r.Each {
			if at == 4 {
				return
			}
		}
		t.Error("not left")
	}()
}

func TestEachWithoutAYield(t *testing.T) {
	made(t, numbers(0, 10)).Each(nil)
	rope.Rope{}.Each(nil)
}

// P2

// withSpare is l in memory that goes on behind it.
func withSpare(l []int) []int {
	room := append(slices.Clone(l), -7, -7, -7)
	return room[:len(l)]
}

func TestWhatIsHandedInStaysAsItWas(t *testing.T) {
	for count := range 10 {
		l := withSpare(numbers(1, count))
		r := made(t, l)
		if want := append(numbers(1, count), -7, -7, -7); !slices.Equal(l[:count+3], want) {
			t.Fatalf("Of left %v", l[:count+3])
		}
		for i := range l[:count+3] {
			l[:count+3][i] = -9
		}
		hold(t, "a rope whose list was written over", r, numbers(1, count))
	}
}

func TestAnswersAreNewMemory(t *testing.T) {
	for count := range 10 {
		r := made(t, numbers(1, count))
		one, two := r.List(), r.List()
		one = one[:cap(one)]
		for i := range one {
			one[i] = -9
		}
		hold(t, "a rope whose List was written over", r, numbers(1, count))
		if !slices.Equal(two, numbers(1, count)) {
			t.Fatalf("two Lists share memory: %v", two)
		}
	}
}

// nodesOf are the addresses of all that a rope holds.
func nodesOf(r rope.Rope) map[uintptr]bool {
	nodes := map[uintptr]bool{}
	var walk func(v reflect.Value)
	walk = func(v reflect.Value) {
		switch v.Kind() {
		case reflect.Struct:
			for i := range v.NumField() {
				walk(v.Field(i))
			}
		case reflect.Pointer:
			if !v.IsNil() {
				nodes[v.Pointer()] = true
				walk(v.Elem())
			}
		}
	}
	walk(reflect.ValueOf(r))
	return nodes
}

// apart: no two of these ropes hold the same memory.
func apart(t *testing.T, what string, ropes ...rope.Rope) {
	t.Helper()
	held := map[uintptr]bool{}
	count := 0
	for _, r := range ropes {
		nodes := nodesOf(r)
		if len(nodes) != r.Len() {
			t.Fatalf("%s: %d numbers in %d nodes", what, r.Len(), len(nodes))
		}
		count += len(nodes)
		for node := range nodes {
			held[node] = true
		}
	}
	if len(held) != count {
		t.Fatalf("%s: %d nodes are shared", what, count-len(held))
	}
}

func TestRopesShareNoMemory(t *testing.T) {
	for count := range 12 {
		r, o := made(t, numbers(1, count)), made(t, numbers(50, 5))
		for from := range count + 1 {
			first, others, _ := r.Split(from)
			apart(t, "Split", r, first, others)
			for to := from; to <= count; to++ {
				s, _ := r.Slice(from, to)
				apart(t, "Slice", r, s)
				p, _ := r.Put(from, to, o)
				apart(t, "Put", r, o, p)
				p, _ = r.Put(from, to, rope.Rope{})
				apart(t, "Put", r, p)
			}
		}
		j, _ := r.Join(o)
		apart(t, "Join", r, o, j)
		j, _ = r.Join(rope.Rope{})
		apart(t, "Join", r, j)
		j, _ = rope.Rope{}.Join(r)
		apart(t, "Join", r, j)
		j, _ = r.Join(r)
		apart(t, "Join", r, j)
	}
}

func TestNothingIsKeptFromCallToCall(t *testing.T) {
	l, other := numbers(1, 9), numbers(30, 4)
	for range 3 {
		r, o := made(t, l), made(t, other)
		hold(t, "Of", r, l)
		holdPlaces(t, r, o)
		holdJoin(t, r, l, o, other)
		rope.Of(make([]int, api.MaxText+1))
		r.At(-1)
		r.Each(func(at, _ int) bool { return at < 3 })
		holdEach(t, r, l)
	}
}
