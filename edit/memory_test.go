package edit_test

import (
	"fmt"
	"reflect"
	"slices"
	"sync"
	"testing"
	"unsafe"

	"fairhand/api"
	"fairhand/edit"
)

// laidOut has a line and registers that stand in one memory, with room behind
// each that others use.
func laidOut() (memory []int, l api.Line, r api.Regs) {
	memory = append(of("one (two) x"), numbers(1, 100)...)
	for k := range r {
		r[k] = memory[12+3*k : 12+3*k+k%4]
	}
	r[1] = memory[4:6]
	r[2] = memory[3:3]
	r[25] = r[24]
	return memory, api.Line{Text: memory[:11], At: 5}, r
}

// listsOf an answer, all of them lists of numbers.
func listsOf(got api.Result) [][]int {
	lists := append([][]int{got.Line.Text}, got.Regs[:]...)
	for _, s := range got.Edit[:cap(got.Edit)] {
		lists = append(lists, s.Text)
	}
	return lists
}

// write writes into all the memory of an answer, list by list, and looks
// whether another list has changed.
func write(t *testing.T, what string, lists [][]int) {
	t.Helper()
	for i, l := range lists {
		for at := range l[:cap(l)] {
			l[:cap(l)][at] = -100 - i
		}
	}
	for i, l := range lists {
		for _, c := range l[:cap(l)] {
			if c != -100-i {
				t.Fatalf("%s: list %d shares its memory", what, i)
			}
		}
	}
}

var memoryCommands = func() []api.Cmd {
	var l []api.Cmd
	eachCommand([]int{0, 2}, of("x(w"), func(c api.Cmd) {
		for _, name := range of("\x00aBcXz") {
			c.Reg = name
			l = append(l, c)
		}
	})
	return l
}()

func TestWhatIsHandedInStaysAsItWas(t *testing.T) {
	memory, l, r := laidOut()
	was, regs := slices.Clone(memory), r
	last := api.Find{Key: 'f', Arg: 'x'}
	for _, c := range memoryCommands {
		a := asked{l: l, r: r, last: last, c: c}
		first, _ := edit.Do(l, r, last, c)
		second, _ := edit.Do(l, r, last, c)
		if !same(first, second) {
			t.Fatalf("%v: %v, then %v", a, first, second)
		}
		write(t, a.String(), append(listsOf(first), listsOf(second)...))
		for i := range first.Edit[:cap(first.Edit)] {
			first.Edit[:cap(first.Edit)][i] = api.Splice{From: -7, To: -7}
		}
		if !slices.Equal(memory, was) || !reflect.DeepEqual(r, regs) {
			t.Fatalf("%v: %v was %v", a, memory, was)
		}
		check(t, a)
	}
}

func TestWhatIsTypedIntoStaysAsItWas(t *testing.T) {
	memory, l, _ := laidOut()
	was := slices.Clone(memory)
	for at := -1; at <= len(l.Text)+1; at++ {
		l.At = at
		for _, key := range []int{'x', 8, 127, 21, 23, 27} {
			for mode := range 4 {
				first, _ := edit.Key(l, mode, key)
				second, _ := edit.Key(l, mode, key)
				write(t, fmt.Sprint(at, mode, key), [][]int{first.Text, second.Text})
				if !slices.Equal(memory, was) {
					t.Fatalf("%d %d %d: %v was %v", at, mode, key, memory, was)
				}
				checkKey(t, l, mode, key)
			}
		}
	}
}

// What is told of nothing is no piece of what was handed in.
func TestNothingIsNoPieceOfWhatWasThere(t *testing.T) {
	memory := []int{1, 2, 3}
	var r api.Regs
	for k := range r {
		r[k] = memory[1:1]
	}
	check := func(l []int) {
		t.Helper()
		if len(l) == 0 && l != nil && unsafe.SliceData(l) == &memory[1] {
			t.Error("an empty list is a piece of another one")
		}
	}
	empty := api.Line{Text: memory[1:1]}
	for _, c := range []api.Cmd{{Verb: 'i'}, {Op: 'c', Verb: 'c'}, {Verb: '0'}, {Verb: 'R'}} {
		got, err := edit.Do(empty, r, api.Find{}, c)
		if err != api.OK {
			t.Error(c, err)
		}
		for _, l := range listsOf(got) {
			check(l)
		}
	}
	got, _ := edit.Do(api.Line{Text: memory[1:2]}, r, api.Find{}, api.Cmd{Verb: 'x'})
	for _, l := range listsOf(got) {
		check(l)
	}
	for _, key := range []int{8, 21, 23} {
		now, err := edit.Key(api.Line{Text: memory[1:2], At: 1}, api.Insert, key)
		if err != api.OK || len(now.Text) != 0 {
			t.Error(now, err)
		}
		check(now.Text)
	}
}

// Registers may be handed in that have more than a register may.
func TestRegistersThatHaveTooMuch(t *testing.T) {
	long := numbers(1, 100000)
	r := api.Regs{0: long, 1: long, 9: long[5:300]}
	for _, s := range []string{"l", "x", "\"Ax", "\"ax", "p", "\"aP", "\"ip", "2~", "i", "dd", "yy", "cw"} {
		check(t, asked{l: line("one two", 3), r: r, c: cmd(t, s)})
	}
}

// What is changed behind a call is seen by the next call, and nothing else is.
func TestNothingIsKeptFromCallToCall(t *testing.T) {
	_, l, r := laidOut()
	for i, c := range memoryCommands {
		l.At = i % len(l.Text)
		l.Text[i%7] = of("aB (x)")[i%6]
		r[i%5] = numbers(i, i%3)
		check(t, asked{l: l, r: r, last: api.Find{Key: of(finds)[i%4], Arg: 'x'}, c: c})
		check(t, asked{l: l, r: r, c: c})
		checkKey(t, l, 1+i%2, of("x\x08\x15\x17\x1b")[i%5])
		checkError(t, asked{l: api.Line{At: 1}, c: c}, api.ErrArg)
	}
}

func TestManyAskAtOneTime(t *testing.T) {
	_, l, r := laidOut()
	last := api.Find{Key: 'f', Arg: 'x'}
	wrong := make([]int, 8)
	var hands sync.WaitGroup
	for hand := range wrong {
		hands.Go(func() {
			for _, c := range memoryCommands {
				want, wantErr := wantDo(asked{l, r, last, c})
				if got, err := edit.Do(l, r, last, c); !same(got, want) || err != wantErr {
					wrong[hand]++
				}
				if got, err := edit.Key(l, api.Insert, 'x'); len(got.Text) != 12 || err != api.OK {
					wrong[hand]++
				}
			}
		})
	}
	hands.Wait()
	for hand, count := range wrong {
		if count > 0 {
			t.Errorf("hand %d: %d times", hand, count)
		}
	}
}
