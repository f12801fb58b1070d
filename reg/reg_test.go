package reg_test

import (
	"fmt"
	"math"
	"math/rand"
	"reflect"
	"slices"
	"strings"
	"testing"
	"unsafe"

	"fairhand/api"
	"fairhand/reg"
)

// names and greats have at the place k the names of r[k].
const (
	names  = "\x00abcdefghijklmnopqrstuvwxyz"
	greats = "\x00ABCDEFGHIJKLMNOPQRSTUVWXYZ"
)

// odd are numbers that are no name.
var odd = []int{math.MinInt, math.MinInt + 1, math.MinInt32, -'a', -'A', -27, -26, -1, 1, 26, 27, 1 << 8, 1<<8 + 'a', 1<<16 + 'Z',
	1 << 32, 1<<32 + 'a', 1<<32 + 'A', math.MinInt + 'a', math.MaxInt32, math.MaxInt - 1, math.MaxInt}

// numbers: so many, no two alike, from first on.
func numbers(first, count int) []int {
	var l []int
	for i := range count {
		l = append(l, first+i)
	}
	return l
}

// brief keeps what is told of long lists to some of it.
func brief(list any) string {
	s := fmt.Sprint(list)
	return s[:min(len(s), 300)]
}

func same(a, b api.Regs) bool {
	for k := range a {
		if !slices.Equal(a[k], b[k]) {
			return false
		}
	}
	return true
}

// full has something else in each register.
func full() api.Regs {
	var r api.Regs
	for k := range r {
		r[k] = numbers(1000*(k+1), 1+k%5)
	}
	return r
}

// placeOf the name: where the register is, whether the letter is great, and
// whether it is a name at all.
func placeOf(name int) (k int, great, is bool) {
	for k := range names {
		if name == int(names[k]) || name == int(greats[k]) {
			return k, name != int(names[k]), true
		}
	}
	return 0, false, false
}

// wantPut tells Put character by character.
func wantPut(r api.Regs, name int, text []int) (api.Regs, api.Errno) {
	k, great, is := placeOf(name)
	if !is {
		return api.Regs{}, api.ErrKey
	}
	var now []int
	if great {
		for _, c := range r[k] {
			now = append(now, c)
		}
	}
	for _, c := range text {
		now = append(now, c)
	}
	if len(now) > 200 || len(text) > 200 {
		return api.Regs{}, api.ErrLarge
	}
	r[k] = now
	r[0] = now
	return r, api.OK
}

// checkPut answers what Put does.
func checkPut(t *testing.T, r api.Regs, name int, text []int) api.Regs {
	t.Helper()
	want, wantErr := wantPut(r, name, text)
	got, err := reg.Put(r, name, text)
	if !same(got, want) || err != wantErr {
		t.Fatalf("Put(%s, %d, %s): %s %v, not %s %v", brief(r), name, brief(text), brief(got), err, brief(want), wantErr)
	}
	return got
}

func checkGet(t *testing.T, r api.Regs, name int, want []int) {
	t.Helper()
	wantErr := api.OK
	if len(want) == 0 {
		wantErr = api.ErrNone
	}
	if l, err := reg.Get(r, name); !slices.Equal(l, want) || err != wantErr {
		t.Fatalf("Get(%s, %d): %s %v, not %s %v", brief(r), name, brief(l), err, brief(want), wantErr)
	}
}

func checkPutError(t *testing.T, r api.Regs, name int, text []int, want api.Errno) {
	t.Helper()
	got, err := reg.Put(r, name, text)
	if !same(got, api.Regs{}) || err != want {
		t.Fatalf("Put(%s, %d, %s): %s %v, not %v", brief(r), name, brief(text), brief(got), err, want)
	}
}

func checkGetError(t *testing.T, r api.Regs, name int, want api.Errno) {
	t.Helper()
	if l, err := reg.Get(r, name); len(l) != 0 || err != want {
		t.Fatalf("Get(%s, %d): %s %v, not %v", brief(r), name, brief(l), err, want)
	}
}

func TestPut(t *testing.T) {
	x, y, z, xy := []int{'x'}, []int{'y'}, []int{'z'}, []int{'x', 'y'}
	for _, test := range []struct {
		r    api.Regs
		name int
		text []int
		want api.Regs
	}{
		// Without a name.
		{api.Regs{}, 0, x, api.Regs{0: x}},
		{api.Regs{0: z}, 0, xy, api.Regs{0: xy}},
		{api.Regs{0: z, 1: y}, 0, x, api.Regs{0: x, 1: y}},
		// In the place of what was there.
		{api.Regs{}, 'a', x, api.Regs{0: x, 1: x}},
		{api.Regs{}, 'z', x, api.Regs{0: x, 26: x}},
		{api.Regs{1: xy}, 'a', z, api.Regs{0: z, 1: z}},
		{api.Regs{0: y, 1: y, 2: z}, 'a', x, api.Regs{0: x, 1: x, 2: z}},
		{api.Regs{0: y, 1: y, 2: z}, 'b', x, api.Regs{0: x, 1: y, 2: x}},
		// Behind what was there; what was without a name is gone.
		{api.Regs{}, 'A', x, api.Regs{0: x, 1: x}},
		{api.Regs{1: x}, 'A', y, api.Regs{0: xy, 1: xy}},
		{api.Regs{0: z, 1: x}, 'A', y, api.Regs{0: xy, 1: xy}},
		{api.Regs{0: z, 26: x}, 'Z', y, api.Regs{0: xy, 26: xy}},
		{api.Regs{0: z, 1: x, 2: z}, 'C', y, api.Regs{0: y, 1: x, 2: z, 3: y}},
		// Nothing is put there.
		{api.Regs{0: z, 1: x}, 0, nil, api.Regs{1: x}},
		{api.Regs{0: z, 1: x}, 'a', nil, api.Regs{}},
		{api.Regs{0: z, 1: x}, 'a', []int{}, api.Regs{}},
		{api.Regs{0: z, 1: x}, 'A', nil, api.Regs{0: x, 1: x}},
		{api.Regs{0: z, 1: x}, 'B', nil, api.Regs{1: x}},
	} {
		if got := checkPut(t, test.r, test.name, test.text); !same(got, test.want) {
			t.Errorf("Put(%v, %d, %v): %v, not %v", test.r, test.name, test.text, got, test.want)
		}
	}
}

func TestAllNames(t *testing.T) {
	text := []int{7, 8, 9}
	for k := range 27 {
		for _, name := range []int{int(names[k]), int(greats[k])} {
			for _, r := range []api.Regs{{}, {0: text}, full()} {
				checkPut(t, r, name, text)
				checkPut(t, r, name, nil)
				checkGet(t, r, name, r[k])
			}
			// One that has nothing where all others have something, and the
			// other way round.
			r := full()
			r[k] = nil
			checkPut(t, r, name, text)
			checkGetError(t, r, name, api.ErrNone)
			r[k] = []int{}
			checkGetError(t, r, name, api.ErrNone)
			r = api.Regs{}
			r[k] = text
			checkPut(t, r, name, []int{1})
			checkGet(t, r, name, text)
		}
	}
}

func TestNamesThatAreNone(t *testing.T) {
	check := func(name int) {
		for _, r := range []api.Regs{{}, full()} {
			checkPutError(t, r, name, []int{1}, api.ErrKey)
			checkPutError(t, r, name, nil, api.ErrKey)
			// The name is looked at first.
			checkPutError(t, r, name, numbers(0, 201), api.ErrKey)
			checkGetError(t, r, name, api.ErrKey)
		}
	}
	count := 0
	for name := -300; name <= 1000; name++ {
		if strings.ContainsRune(names+greats, rune(name)) && name >= 0 {
			count++
			continue
		}
		check(name)
	}
	if count != 53 {
		t.Error(count)
	}
	for _, name := range odd {
		check(name)
	}
}

func TestTooLargeATextForAnyRegister(t *testing.T) {
	for k := range 27 {
		for _, name := range []int{int(names[k]), int(greats[k])} {
			for _, r := range []api.Regs{{}, full()} {
				for _, long := range []int{201, 202, 256, 4096, 4097, 100000} {
					checkPutError(t, r, name, numbers(0, long), api.ErrLarge)
				}
				for _, long := range []int{1, 199, 200} {
					checkPut(t, r, int(names[k]), numbers(0, long))
				}
			}
			got := checkPut(t, api.Regs{}, name, numbers(0, 200))
			checkGet(t, got, name, numbers(0, 200))
			checkGet(t, got, 0, numbers(0, 200))
		}
	}
}

func TestHowMuchARegisterMayHave(t *testing.T) {
	for k := 1; k <= 26; k++ {
		for there := range 203 {
			var r api.Regs
			// What is without a name does not count.
			r[0], r[k] = numbers(-5000, 200), numbers(1, there)
			for _, long := range []int{0, 1, 2, 99, 100, 101, 199 - there, 200 - there, 201 - there, 202 - there} {
				if long < 0 {
					continue
				}
				got, err := reg.Put(r, int(greats[k]), numbers(1+there, long))
				if there+long > 200 {
					checkPutError(t, r, int(greats[k]), numbers(1+there, long), api.ErrLarge)
				} else if l := numbers(1, there+long); err != api.OK || !slices.Equal(got[k], l) || !slices.Equal(got[0], l) {
					t.Fatalf("%d and %d: %v %v", there, long, got, err)
				}
				// The small letter puts out what is there, however much.
				checkPut(t, r, int(names[k]), numbers(1, long))
			}
		}
	}
}

// Registers may be handed in that have more than Put would give them.
func TestRegistersThatHaveTooMuch(t *testing.T) {
	long := numbers(1, 5000)
	r := api.Regs{0: long, 1: long, 3: numbers(9, 201), 26: long}
	for _, name := range []int{'A', 'C', 'Z'} {
		checkPutError(t, r, name, nil, api.ErrLarge)
		checkPutError(t, r, name, []int{1}, api.ErrLarge)
	}
	for _, name := range []int{0, 'a', 'b', 'B', 'c', 'z'} {
		checkPut(t, r, name, []int{4, 5})
		checkPut(t, r, name, nil)
	}
	for _, name := range []int{0, 'a', 'A', 'z', 'Z'} {
		checkGet(t, r, name, long)
	}
	checkGet(t, r, 'c', numbers(9, 201))
	checkGet(t, r, 'C', numbers(9, 201))
}

func TestGet(t *testing.T) {
	r := full()
	for k := range 27 {
		checkGet(t, r, int(names[k]), numbers(1000*(k+1), 1+k%5))
		checkGet(t, r, int(greats[k]), numbers(1000*(k+1), 1+k%5))
	}
	// What was put is there, till nothing is put in its place.
	r, _ = reg.Put(r, 'q', []int{5})
	checkGet(t, r, 'q', []int{5})
	checkGet(t, r, 'Q', []int{5})
	checkGet(t, r, 0, []int{5})
	r, _ = reg.Put(r, 'Q', []int{6})
	checkGet(t, r, 'q', []int{5, 6})
	checkGet(t, r, 0, []int{5, 6})
	r, _ = reg.Put(r, 0, []int{7})
	checkGet(t, r, 'Q', []int{5, 6})
	checkGet(t, r, 0, []int{7})
	r, _ = reg.Put(r, 'q', nil)
	checkGetError(t, r, 'q', api.ErrNone)
	checkGetError(t, r, 'Q', api.ErrNone)
	checkGetError(t, r, 0, api.ErrNone)
	checkGet(t, r, 'r', numbers(19000, 4))
}

func TestAnyNumberIsACharacter(t *testing.T) {
	r := checkPut(t, api.Regs{}, 'a', odd)
	r = checkPut(t, r, 'A', []int{0, 0, math.MinInt, math.MaxInt})
	checkGet(t, r, 'a', append(slices.Clone(odd), 0, 0, math.MinInt, math.MaxInt))
}

// Many are put one behind the other, by few names and by all.
func TestManyPuts(t *testing.T) {
	rnd := rand.New(rand.NewSource(34))
	for _, few := range []int{2, 5, 27} {
		var r, want api.Regs
		for step := range 20000 {
			k := rnd.Intn(few)
			name := int(names[k])
			if rnd.Intn(4) > 0 {
				name = int(greats[k])
			}
			text := numbers(step*100, rnd.Intn(1<<rnd.Intn(9)))
			got := checkPut(t, r, name, text)
			wanted, err := wantPut(want, name, text)
			if err != api.OK {
				continue
			}
			r, want = got, wanted
			for k := range few {
				checkGet(t, r, int(names[k]), want[k])
				checkGet(t, r, int(greats[k]), want[k])
			}
		}
	}
}

// laidOut has in each register a list with room behind it that others use:
// all of them stand in one memory.
func laidOut() (memory []int, r api.Regs) {
	memory = numbers(1, 200)
	for k := range r {
		r[k] = memory[3*k : 3*k+k%4]
	}
	r[25] = r[24]
	return memory, r
}

// write writes into all the memory of an answer, list by list, and each time
// looks whether another list has changed.
func write(t *testing.T, what string, lists [][]int) {
	t.Helper()
	for i, l := range lists {
		l = l[:cap(l)]
		for at := range l {
			l[at] = -100 - i
		}
	}
	for i, l := range lists {
		for _, c := range l[:cap(l)] {
			if c != -100-i {
				t.Fatalf("%s: list %d shares its memory", what, i)
			}
		}
	}
}

func TestWhatIsHandedInStaysAsItWas(t *testing.T) {
	memory, r := laidOut()
	was, handed := slices.Clone(memory), r
	for k := range 27 {
		for _, name := range []int{int(names[k]), int(greats[k]), '1'} {
			for _, text := range [][]int{nil, {}, memory[190:195], r[1], r[7], r[k], memory[3*k : 3*k+3], memory} {
				what := fmt.Sprintf("%d, %v", name, text)
				all, _ := reg.Put(r, name, text)
				again, _ := reg.Put(r, name, text)
				if !same(all, again) {
					t.Fatalf("%s: %v, then %v", what, all, again)
				}
				l, _ := reg.Get(r, name)
				write(t, what, slices.Concat(all[:], again[:], [][]int{l}))
				if !slices.Equal(memory, was) || !reflect.DeepEqual(r, handed) {
					t.Fatalf("%s: %v was %v", what, memory, was)
				}
				again, _ = reg.Put(r, name, text)
				if want, _ := wantPut(r, name, text); !same(again, want) {
					t.Fatalf("%s: %v, not %v", what, again, want)
				}
			}
		}
	}
}

// What is told of nothing is no piece of what was handed in.
func TestNothingIsNoPieceOfWhatWasThere(t *testing.T) {
	memory := []int{1, 2, 3}
	var r api.Regs
	for k := range r {
		r[k] = memory[1:1]
	}
	for _, name := range []int{0, 'a', 'A', 'z'} {
		all, _ := reg.Put(r, name, memory[1:1])
		l, _ := reg.Get(r, name)
		for k, l := range append(all[:], l) {
			if len(l) != 0 || unsafe.SliceData(l) == &memory[1] {
				t.Errorf("%d: list %d is %v, with the memory of another", name, k, l)
			}
		}
	}
}

// What is changed behind a call is seen by the next call, and nothing else is.
func TestNothingIsKeptFromCallToCall(t *testing.T) {
	r, text := full(), []int{1, 2, 3}
	for k := range 27 {
		r[k][0] += 7
		text[k%3] += 1000
		checkPut(t, r, int(names[k]), text)
		checkPut(t, r, int(greats[k]), text[:k%4])
		checkGet(t, r, int(greats[k]), r[k])
		checkPutError(t, r, '!', text, api.ErrKey)
		checkPutError(t, r, int(greats[k]), numbers(0, 201), api.ErrLarge)
		checkGetError(t, r, '!', api.ErrKey)
		checkGetError(t, api.Regs{}, int(names[k]), api.ErrNone)
		checkGet(t, r, int(names[k]), r[k])
	}
}
