package keys_test

import (
	"fmt"
	"math"
	"math/rand"
	"slices"
	"strings"
	"sync"
	"testing"

	"fairhand/api"
	"fairhand/keys"
)

// does has for each key a letter for what it does where none is waited for,
// without an Op and with one: X is Wrong, D is Done, W waits for another key,
// O is an operator, N the sign ahead of a name, 9 a digit, 0 the digit 0.
var does = []struct{ keys, alone, withOp string }{
	{" !\"#$%&'()*+,-./", "XXNXDDXXXXXXDXDD", "XXXXDDXXXXXXDXXX"},
	{"0123456789", "0999999999", "0999999999"},
	{":;<=>?@", "XDXXXDX", "XDXXXXX"},
	{"ABCDEFGHIJKLMNOPQRSTUVWXYZ", "DDDDDWDXDXXXXDXDXDDWDXDDDX", "XDXXDWXXXXXXXXXXXXXWXXDXXX"},
	{"[\\]^_`", "XXXDXX", "XXXDXX"},
	{"abcdefghijklmnopqrstuvwxyz", "DDOODWXDDDDDXDXDXWDWDXDDOX", "WDOODWXDWXXDXXXXXXXWXXDXOX"},
	{"{|}~", "XDXD", "XDXX"},
}

const (
	letters = "abcdefghijklmnopqrstuvwxyzABCDEFGHIJKLMNOPQRSTUVWXYZ"
	things  = "wW()[]{}\"'`"
)

// odd are numbers that are no key of a name, and no count.
var odd = []int{math.MinInt, math.MinInt + 1, math.MinInt32, -'d', -999, -1, 1000, 1 << 8, 1<<8 + 'd', 1<<16 + 'x', 1<<16 + '"', 1 << 32, 1<<32 + 'a',
	1<<32 + 'f', math.MinInt + 'a', math.MinInt + 'd', math.MaxInt32, math.MaxInt - 1, math.MaxInt}

// everyKey has all keys that may mean something, and many more.
var everyKey = func() []int {
	l := slices.Clone(odd)
	for key := -3; key < 300; key++ {
		l = append(l, key)
	}
	return append(l, 0x20ac, api.Bad, 0x10ffff)
}()

// of a text: its characters.
func of(s string) []int {
	var l []int
	for _, c := range s {
		l = append(l, int(c))
	}
	return l
}

func textOf(l []int) string {
	var s strings.Builder
	for _, key := range l {
		if key >= 32 && key < 127 {
			s.WriteByte(byte(key))
		} else {
			fmt.Fprintf(&s, "<%d>", key)
		}
	}
	return s.String()[:min(s.Len(), 300)]
}

func has(s string, key int) bool {
	return key >= 0 && key < 128 && strings.IndexByte(s, byte(key)) >= 0
}

// doesOf the key by the rows of does.
func doesOf(key int, op bool) byte {
	for _, row := range does {
		for k := range row.keys {
			if int(row.keys[k]) != key {
				continue
			}
			if op {
				return row.withOp[k]
			}
			return row.alone[k]
		}
	}
	return 'X'
}

// wantCheck lists what may wait by what is there already.
func wantCheck(p api.Part) api.Errno {
	waits := "\x00fFtT"
	switch {
	case p.Op != 0:
		waits += "ia"
	case p.Reg != 0:
		waits += "r"
	default:
		waits += "r\""
	}
	ok := p.First > -1 && p.First < 1000 && p.Second > -1 && p.Second < 1000 &&
		has("\x00"+letters, p.Reg) && has("\x00dcy", p.Op) && has(waits, p.Wait)
	if !ok || p.Op == 0 && p.Second > 0 {
		return api.ErrArg
	}
	return api.OK
}

type taken struct {
	p   api.Part
	c   api.Cmd
	how int
}

func more(p api.Part) taken { return taken{p, api.Cmd{}, 1} }

var wrong = taken{how: 3}

func done(p api.Part, verb, arg int) taken {
	n := 0
	switch {
	case p.First > 0 && p.Second > 0:
		n = p.First * p.Second
	case p.First > 0:
		n = p.First
	default:
		n = p.Second
	}
	if n > 999 {
		n = 999
	}
	return taken{api.Part{}, api.Cmd{Count: n, Reg: p.Reg, Op: p.Op, Verb: verb, Arg: arg}, 2}
}

func wantAwaited(p api.Part, key int) taken {
	switch p.Wait {
	case '"':
		if !has(letters, key) {
			return wrong
		}
		return more(api.Part{First: p.First, Reg: key})
	case 'i', 'a':
		if !has(things, key) {
			return wrong
		}
	}
	return done(p, p.Wait, key)
}

// wantTake is asked only where Check lets p pass.
func wantTake(p api.Part, key int) taken {
	if key < 32 || key == 127 {
		return wrong
	}
	if p.Wait != 0 {
		return wantAwaited(p, key)
	}
	count := &p.First
	if p.Op != 0 {
		count = &p.Second
	}
	does := doesOf(key, p.Op != 0)
	if does == '0' && *count == 0 {
		does = 'D'
	}
	switch does {
	case '0', '9':
		*count = *count*10 + key - 48
		if *count > 999 {
			*count = 999
		}
		return more(p)
	case 'D':
		return done(p, key, 0)
	case 'W', 'N':
		if does == 'N' && p.Reg != 0 {
			return wrong
		}
		p.Wait = key
		return more(p)
	case 'O':
		if p.Op == 0 {
			p.Op = key
			return more(p)
		}
		if p.Op == key {
			return done(p, key, 0)
		}
	}
	return wrong
}

func checkTake(t *testing.T, p api.Part, key int) {
	t.Helper()
	want := wantTake(p, key)
	got, c, how, err := keys.Take(p, key)
	if (taken{got, c, how}) != want || err != api.OK {
		t.Fatalf("Take(%v, %d %q): %v %v %d %v, not %v", p, key, rune(key), got, c, how, err, want)
	}
	if keys.Check(got) != api.OK {
		t.Fatalf("Take(%v, %d): Check(%v)", p, key, got)
	}
}

func checkTakeError(t *testing.T, p api.Part, key int) {
	t.Helper()
	if got, c, how, err := keys.Take(p, key); got != (api.Part{}) || c != (api.Cmd{}) || how != 0 || err != api.ErrArg {
		t.Fatalf("Take(%v, %d): %v %v %d %v", p, key, got, c, how, err)
	}
}

func checkPart(t *testing.T, p api.Part) api.Errno {
	t.Helper()
	want := wantCheck(p)
	if err := keys.Check(p); err != want {
		t.Fatalf("Check(%v): %v, not %v", p, err, want)
	}
	return want
}

func TestCheck(t *testing.T) {
	for _, test := range []struct {
		p    api.Part
		want api.Errno
	}{
		{api.Part{}, api.OK},
		{api.Part{First: 999}, api.OK},
		{api.Part{First: 1000}, api.ErrArg},
		{api.Part{First: -1}, api.ErrArg},
		{api.Part{Op: 'd', Second: 999}, api.OK},
		{api.Part{Op: 'd', Second: 1000}, api.ErrArg},
		{api.Part{Op: 'd', Second: -1}, api.ErrArg},
		{api.Part{Second: -1}, api.ErrArg},
		{api.Part{Second: 1}, api.ErrArg},
		{api.Part{First: 1, Second: 1}, api.ErrArg},
		{api.Part{First: 999, Op: 'y', Second: 999}, api.OK},
		{api.Part{Reg: 'a'}, api.OK},
		{api.Part{Reg: 'z'}, api.OK},
		{api.Part{Reg: 'A'}, api.OK},
		{api.Part{Reg: 'Z'}, api.OK},
		{api.Part{Reg: 'a' - 1}, api.ErrArg},
		{api.Part{Reg: 'z' + 1}, api.ErrArg},
		{api.Part{Reg: 'A' - 1}, api.ErrArg},
		{api.Part{Reg: 'Z' + 1}, api.ErrArg},
		{api.Part{Reg: '1'}, api.ErrArg},
		{api.Part{Reg: '"'}, api.ErrArg},
		{api.Part{Reg: 1}, api.ErrArg},
		{api.Part{Op: 'c'}, api.OK},
		{api.Part{Op: 'x'}, api.ErrArg},
		{api.Part{Op: 'D'}, api.ErrArg},
		{api.Part{Op: 'C'}, api.ErrArg},
		{api.Part{Op: 'Y'}, api.ErrArg},
		{api.Part{Op: 1}, api.ErrArg},
		{api.Part{Wait: 'f'}, api.OK},
		{api.Part{Wait: 'F', Op: 'd'}, api.OK},
		{api.Part{Wait: 't', First: 3, Reg: 'q'}, api.OK},
		{api.Part{Wait: 'T', First: 3, Reg: 'q', Op: 'c', Second: 5}, api.OK},
		{api.Part{Wait: 'T', Second: 5}, api.ErrArg},
		{api.Part{Wait: 'r'}, api.OK},
		{api.Part{Wait: 'r', First: 9, Reg: 'a'}, api.OK},
		{api.Part{Wait: 'r', Op: 'd'}, api.ErrArg},
		{api.Part{Wait: '"'}, api.OK},
		{api.Part{Wait: '"', First: 7}, api.OK},
		{api.Part{Wait: '"', Reg: 'a'}, api.ErrArg},
		{api.Part{Wait: '"', Op: 'd'}, api.ErrArg},
		{api.Part{Wait: '"', Op: 'd', Reg: 'a'}, api.ErrArg},
		{api.Part{Wait: 'i', Op: 'd'}, api.OK},
		{api.Part{Wait: 'a', Op: 'y', Second: 2}, api.OK},
		{api.Part{Wait: 'i'}, api.ErrArg},
		{api.Part{Wait: 'a', Reg: 'a'}, api.ErrArg},
		{api.Part{Wait: 'd'}, api.ErrArg},
		{api.Part{Wait: 'd', Op: 'd'}, api.ErrArg},
		{api.Part{Wait: 'R'}, api.ErrArg},
		{api.Part{Wait: 'I', Op: 'd'}, api.ErrArg},
		{api.Part{Wait: 'A', Op: 'd'}, api.ErrArg},
		{api.Part{Wait: 'w', Op: 'd'}, api.ErrArg},
		{api.Part{Wait: '\''}, api.ErrArg},
	} {
		if err := keys.Check(test.p); err != test.want {
			t.Errorf("Check(%v): %v, not %v", test.p, err, test.want)
		}
		checkPart(t, test.p)
		if test.want != api.OK {
			checkTakeError(t, test.p, 'x')
		}
	}
}

// Each part of a Part by itself may be any number.
func TestCheckOfAnyNumbers(t *testing.T) {
	for _, p := range []api.Part{{}, {First: 2}, {Reg: 'k'}, {Op: 'd'}, {Op: 'c', Second: 3}, {Wait: 'f'}, {Wait: 'r'}, {Wait: '"'},
		{Op: 'y', Wait: 'i'}, {First: 2, Reg: 'k', Op: 'y', Second: 3, Wait: 'a'}, {Reg: 'B', Wait: 'r'}, {Reg: 'B', Op: 'd', Wait: 'T'}} {
		for _, n := range append(of(letters), everyKey...) {
			for _, field := range []*int{&p.First, &p.Reg, &p.Op, &p.Second, &p.Wait} {
				was := *field
				*field = n
				if checkPart(t, p) != api.OK {
					for _, key := range []int{'x', 'w', 'a', 27, '7', -1, 300} {
						checkTakeError(t, p, key)
					}
				}
				*field = was
			}
		}
	}
}

func TestCheckOfAllTogether(t *testing.T) {
	counts := []int{math.MinInt, -1, 0, 1, 999, 1000, math.MaxInt}
	for _, first := range counts {
		for _, second := range counts {
			for _, reg := range of("\x00aZ\"1`{@[") {
				for _, op := range of("\x00dcyxDif") {
					for _, wait := range of("\x00fFtTr\"iadIR0") {
						p := api.Part{First: first, Reg: reg, Op: op, Second: second, Wait: wait}
						if checkPart(t, p) != api.OK {
							checkTakeError(t, p, 'w')
							checkTakeError(t, p, 27)
						}
					}
				}
			}
		}
	}
}

func TestTake(t *testing.T) {
	for _, test := range []struct {
		p    api.Part
		key  rune
		want taken
	}{
		// Keys that mean nothing anywhere.
		{api.Part{}, 27, wrong},
		{api.Part{}, 31, wrong},
		{api.Part{}, 127, wrong},
		{api.Part{First: 3}, 27, wrong},
		{api.Part{Wait: 'f'}, 31, wrong},
		{api.Part{Wait: 'f'}, 127, wrong},
		{api.Part{Wait: 'r'}, 13, wrong},
		{api.Part{Op: 'd', Wait: 't'}, 9, wrong},
		// A key that is waited for.
		{api.Part{Wait: '"'}, 'a', more(api.Part{Reg: 'a'})},
		{api.Part{Wait: '"', First: 5}, 'Z', more(api.Part{First: 5, Reg: 'Z'})},
		{api.Part{Wait: '"'}, '1', wrong},
		{api.Part{Wait: '"'}, '"', wrong},
		{api.Part{Wait: '"'}, 0xe4, wrong},
		{api.Part{Wait: 'f'}, ' ', done(api.Part{}, 'f', ' ')},
		{api.Part{Wait: 'f'}, 126, done(api.Part{}, 'f', 126)},
		{api.Part{Wait: 'f'}, 128, done(api.Part{}, 'f', 128)},
		{api.Part{Wait: 'F', First: 2}, '7', done(api.Part{First: 2}, 'F', '7')},
		{api.Part{Wait: 't', Op: 'd', Second: 2}, '0', done(api.Part{Op: 'd', Second: 2}, 't', '0')},
		{api.Part{Wait: 'T', Op: 'd', Reg: 'x'}, 'd', done(api.Part{Op: 'd', Reg: 'x'}, 'T', 'd')},
		{api.Part{Wait: 'r'}, 0x20ac, done(api.Part{}, 'r', 0x20ac)},
		{api.Part{Wait: 'i', Op: 'd'}, 'w', done(api.Part{Op: 'd'}, 'i', 'w')},
		{api.Part{Wait: 'a', Op: 'c'}, 96, done(api.Part{Op: 'c'}, 'a', 96)},
		{api.Part{Wait: 'i', Op: 'd'}, 'd', wrong},
		{api.Part{Wait: 'i', Op: 'd'}, 'i', wrong},
		{api.Part{Wait: 'a', Op: 'd'}, '<', wrong},
		// Digits.
		{api.Part{}, '1', more(api.Part{First: 1})},
		{api.Part{First: 1}, '0', more(api.Part{First: 10})},
		{api.Part{First: 99}, '9', more(api.Part{First: 999})},
		{api.Part{First: 100}, '0', more(api.Part{First: 999})},
		{api.Part{First: 999}, '1', more(api.Part{First: 999})},
		{api.Part{First: 5, Reg: 'a'}, '3', more(api.Part{First: 53, Reg: 'a'})},
		{api.Part{First: 5, Reg: 'a'}, '0', more(api.Part{First: 50, Reg: 'a'})},
		{api.Part{First: 5, Op: 'd'}, '3', more(api.Part{First: 5, Op: 'd', Second: 3})},
		{api.Part{First: 5, Op: 'd', Second: 3}, '0', more(api.Part{First: 5, Op: 'd', Second: 30})},
		{api.Part{Op: 'd', Second: 400}, '4', more(api.Part{Op: 'd', Second: 999})},
		{api.Part{}, '0', done(api.Part{}, '0', 0)},
		{api.Part{Reg: 'a'}, '0', done(api.Part{Reg: 'a'}, '0', 0)},
		{api.Part{First: 2, Op: 'd'}, '0', done(api.Part{First: 2, Op: 'd'}, '0', 0)},
		// Operators.
		{api.Part{}, 'd', more(api.Part{Op: 'd'})},
		{api.Part{First: 3, Reg: 'b'}, 'y', more(api.Part{First: 3, Reg: 'b', Op: 'y'})},
		{api.Part{Op: 'd'}, 'd', done(api.Part{Op: 'd'}, 'd', 0)},
		{api.Part{Op: 'c', Second: 2}, 'c', done(api.Part{Op: 'c', Second: 2}, 'c', 0)},
		{api.Part{Op: 'd'}, 'c', wrong},
		{api.Part{Op: 'y'}, 'd', wrong},
		// Others.
		{api.Part{}, '"', more(api.Part{Wait: '"'})},
		{api.Part{First: 4}, '"', more(api.Part{First: 4, Wait: '"'})},
		{api.Part{Reg: 'a'}, '"', wrong},
		{api.Part{Op: 'd'}, '"', wrong},
		{api.Part{}, 'r', more(api.Part{Wait: 'r'})},
		{api.Part{Op: 'd'}, 'r', wrong},
		{api.Part{}, 'i', done(api.Part{}, 'i', 0)},
		{api.Part{Op: 'd'}, 'i', more(api.Part{Op: 'd', Wait: 'i'})},
		{api.Part{Op: 'd'}, 'x', wrong},
		{api.Part{Op: 'd'}, 'T', more(api.Part{Op: 'd', Wait: 'T'})},
		{api.Part{}, 'q', wrong},
		{api.Part{}, 128, wrong},
		// Counts that are multiplied.
		{api.Part{First: 2, Op: 'd', Second: 3}, 'w', taken{c: api.Cmd{Count: 6, Op: 'd', Verb: 'w'}, how: 2}},
		{api.Part{First: 2, Op: 'd'}, 'w', taken{c: api.Cmd{Count: 2, Op: 'd', Verb: 'w'}, how: 2}},
		{api.Part{Op: 'd', Second: 3}, 'w', taken{c: api.Cmd{Count: 3, Op: 'd', Verb: 'w'}, how: 2}},
		{api.Part{First: 27, Op: 'd', Second: 37}, 'w', taken{c: api.Cmd{Count: 999, Op: 'd', Verb: 'w'}, how: 2}},
		{api.Part{First: 500, Op: 'd', Second: 2}, 'w', taken{c: api.Cmd{Count: 999, Op: 'd', Verb: 'w'}, how: 2}},
		{api.Part{First: 499, Op: 'd', Second: 2}, 'w', taken{c: api.Cmd{Count: 998, Op: 'd', Verb: 'w'}, how: 2}},
		{api.Part{First: 999, Op: 'd', Second: 999}, 'w', taken{c: api.Cmd{Count: 999, Op: 'd', Verb: 'w'}, how: 2}},
	} {
		got, c, how, err := keys.Take(test.p, int(test.key))
		if (taken{got, c, how}) != test.want || err != api.OK {
			t.Errorf("Take(%v, %q): %v %v %d %v, not %v", test.p, test.key, got, c, how, err, test.want)
		}
		checkTake(t, test.p, int(test.key))
	}
}

func TestEveryKey(t *testing.T) {
	for _, first := range []int{0, 1, 9, 99, 100, 999} {
		for _, second := range []int{0, 1, 9, 99, 100, 999} {
			for _, reg := range of("\x00aZ") {
				for _, op := range of("\x00dcy") {
					for _, wait := range of("\x00fFtTr\"ia") {
						p := api.Part{First: first, Reg: reg, Op: op, Second: second, Wait: wait}
						if wantCheck(p) != api.OK {
							continue
						}
						for _, key := range everyKey {
							checkTake(t, p, key)
						}
					}
				}
			}
		}
	}
}

func TestEveryCount(t *testing.T) {
	for n := range 1000 {
		for _, key := range of("0123456789wdx\"") {
			checkTake(t, api.Part{First: n}, key)
			checkTake(t, api.Part{First: n, Reg: 'a'}, key)
			checkTake(t, api.Part{Op: 'd', Second: n}, key)
			checkTake(t, api.Part{First: 3, Op: 'd', Second: n}, key)
			checkTake(t, api.Part{First: n, Op: 'd', Second: 7}, key)
			checkTake(t, api.Part{First: n, Op: 'd', Second: 1000 - max(1, n)}, key)
		}
	}
}

func TestEveryName(t *testing.T) {
	for _, reg := range of(letters) {
		checkTake(t, api.Part{Wait: '"'}, reg)
		for _, key := range of("\"dx0f") {
			checkTake(t, api.Part{Reg: reg}, key)
		}
	}
}

// result of a list of keys.
type result struct {
	cmds   []api.Cmd
	p      api.Part
	wrongs int
}

func (r result) String() string { return fmt.Sprint(r.cmds, r.p, r.wrongs) }

func (r result) is(s result) bool {
	return slices.Equal(r.cmds, s.cmds) && r.p == s.p && r.wrongs == s.wrongs
}

// reader goes through keys command by command: it reads each as a whole.
type reader struct {
	keys []int
	at   int
}

func (r *reader) ended() bool { return r.at == len(r.keys) }

func (r *reader) next() int {
	r.at++
	return r.keys[r.at-1]
}

func (r *reader) isAt(set string) bool { return !r.ended() && has(set, r.keys[r.at]) }

// number of digits, behind those that were read of it before.
func (r *reader) number(ahead string) string {
	if ahead == "" && !r.isAt("123456789") {
		return ""
	}
	var s strings.Builder
	s.WriteString(ahead)
	for r.isAt("0123456789") {
		s.WriteByte(byte(r.next()))
	}
	return s.String()
}

func valueOf(digits string) int {
	if len(digits) > 3 {
		return 999
	}
	n := 0
	fmt.Sscan(digits, &n)
	return n
}

// command reads one: what is told of it, or how it can't go on.
func (r *reader) command() taken {
	var p api.Part
	digits := r.number("")
	p.First = valueOf(digits)
	if r.isAt("\"") {
		p.Wait = r.next()
		switch {
		case r.ended():
			return more(p)
		case !r.isAt(letters):
			r.next()
			return wrong
		}
		p.Wait, p.Reg = 0, r.next()
		p.First = valueOf(r.number(digits))
	}
	if r.isAt("dcy") {
		p.Op = r.next()
		p.Second = valueOf(r.number(""))
	}
	if r.ended() {
		return more(p)
	}
	verbs, pairs := "hl0^$|wWbBeE%;,", "fFtT"
	if p.Op != 0 {
		verbs, pairs = verbs+string(rune(p.Op)), pairs+"ia"
	} else {
		verbs, pairs = verbs+"iaIAsSCDxXpPY~uU.jkG/?nNR", pairs+"r"
	}
	verb := r.next()
	switch {
	case has(verbs, verb):
		return done(p, verb, 0)
	case !has(pairs, verb):
		return wrong
	case r.ended():
		p.Wait = verb
		return more(p)
	}
	arg := r.next()
	if arg < 32 || arg == 127 || has("ia", verb) && !has(things, arg) {
		return wrong
	}
	return done(p, verb, arg)
}

func wantAll(l []int) result {
	var all result
	for r := (&reader{keys: l}); !r.ended(); {
		switch got := r.command(); got.how {
		case 1:
			all.p = got.p
		case 2:
			all.cmds = append(all.cmds, got.c)
		case 3:
			all.wrongs++
		}
	}
	return all
}

func checkAll(t *testing.T, l []int) result {
	t.Helper()
	cmds, p, wrongs := keys.All(l)
	got := result{cmds, p, wrongs}
	if want := wantAll(l); !got.is(want) {
		t.Fatalf("All(%s): %v, not %v", textOf(l), got, want)
	}
	return got
}

// foldOf takes the keys one by one.
func foldOf(t *testing.T, l []int) result {
	t.Helper()
	var r result
	for _, key := range l {
		p, c, how, err := keys.Take(r.p, key)
		if err != api.OK {
			t.Fatalf("Take(%v, %d) of %s: %v", r.p, key, textOf(l), err)
		}
		switch how {
		case api.Done:
			r.cmds = append(r.cmds, c)
		case api.Wrong:
			r.wrongs++
		}
		r.p = p
	}
	return r
}

func TestAll(t *testing.T) {
	x := api.Cmd{Verb: 'x'}
	for _, test := range []struct {
		keys   string
		cmds   []api.Cmd
		p      api.Part
		wrongs int
	}{
		{"", nil, api.Part{}, 0},
		{"x", []api.Cmd{x}, api.Part{}, 0},
		{"xx", []api.Cmd{x, x}, api.Part{}, 0},
		{"2d3w", []api.Cmd{{Count: 6, Op: 'd', Verb: 'w'}}, api.Part{}, 0},
		{"2d3", nil, api.Part{First: 2, Op: 'd', Second: 3}, 0},
		{"2d0x", []api.Cmd{{Count: 2, Op: 'd', Verb: '0'}, x}, api.Part{}, 0},
		{"20dd", []api.Cmd{{Count: 20, Op: 'd', Verb: 'd'}}, api.Part{}, 0},
		{"0x", []api.Cmd{{Verb: '0'}, x}, api.Part{}, 0},
		{"00", []api.Cmd{{Verb: '0'}, {Verb: '0'}}, api.Part{}, 0},
		{"10", nil, api.Part{First: 10}, 0},
		{"5\"a3x", []api.Cmd{{Count: 53, Reg: 'a', Verb: 'x'}}, api.Part{}, 0},
		{"5\"a0", nil, api.Part{First: 50, Reg: 'a'}, 0},
		{"\"a0", []api.Cmd{{Reg: 'a', Verb: '0'}}, api.Part{}, 0},
		{"\"a05", []api.Cmd{{Reg: 'a', Verb: '0'}}, api.Part{First: 5}, 0},
		{"\"", nil, api.Part{Wait: '"'}, 0},
		{"7\"", nil, api.Part{First: 7, Wait: '"'}, 0},
		{"7\"Q", nil, api.Part{First: 7, Reg: 'Q'}, 0},
		{"\"\"a", []api.Cmd{{Verb: 'a'}}, api.Part{}, 1},
		{"\"\"ax", []api.Cmd{{Verb: 'a'}, x}, api.Part{}, 1},
		{"\"a\"bx", []api.Cmd{{Verb: 'b'}, x}, api.Part{}, 1},
		{"dcw", []api.Cmd{{Verb: 'w'}}, api.Part{}, 1},
		{"drx", []api.Cmd{x}, api.Part{}, 1},
		{"d\"ax", []api.Cmd{{Verb: 'a'}, x}, api.Part{}, 1},
		{"diwx", []api.Cmd{{Op: 'd', Verb: 'i', Arg: 'w'}, x}, api.Part{}, 0},
		{"iw", []api.Cmd{{Verb: 'i'}, {Verb: 'w'}}, api.Part{}, 0},
		{"fdd", []api.Cmd{{Verb: 'f', Arg: 'd'}}, api.Part{Op: 'd'}, 0},
		{"f1x", []api.Cmd{{Verb: 'f', Arg: '1'}, x}, api.Part{}, 0},
		{"2f3x", []api.Cmd{{Count: 2, Verb: 'f', Arg: '3'}, x}, api.Part{}, 0},
		{"c2t", nil, api.Part{Op: 'c', Second: 2, Wait: 't'}, 0},
		{"3\x1bx", []api.Cmd{x}, api.Part{}, 1},
		{"d\x1bx", []api.Cmd{x}, api.Part{}, 1},
		{"f\x1bx", []api.Cmd{x}, api.Part{}, 1},
		{"r\x7fx", []api.Cmd{x}, api.Part{}, 1},
		{"ra", []api.Cmd{{Verb: 'r', Arg: 'a'}}, api.Part{}, 0},
		{"\x1b\x1b\x1b", nil, api.Part{}, 3},
		{"qmH", nil, api.Part{}, 3},
		{"d5j", nil, api.Part{}, 1},
		{"5j", []api.Cmd{{Count: 5, Verb: 'j'}}, api.Part{}, 0},
		{"1000x", []api.Cmd{{Count: 999, Verb: 'x'}}, api.Part{}, 0},
		{"40d40w", []api.Cmd{{Count: 999, Op: 'd', Verb: 'w'}}, api.Part{}, 0},
		{"99999999999999999999999999d", nil, api.Part{First: 999, Op: 'd'}, 0},
		{"r\u20acr\U0010ffff", []api.Cmd{{Verb: 'r', Arg: 0x20ac}, {Verb: 'r', Arg: 0x10ffff}}, api.Part{}, 0},
		{"\u20acx", []api.Cmd{x}, api.Part{}, 1},
	} {
		want := result{test.cmds, test.p, test.wrongs}
		if got := checkAll(t, of(test.keys)); !got.is(want) {
			t.Errorf("All(%q): %v, not %v", test.keys, got, want)
		}
	}
}

func TestAllOfOneKey(t *testing.T) {
	for _, key := range everyKey {
		for _, ahead := range []string{"", "2", "\"", "\"a", "d", "d3", "c", "y", "f", "F", "t", "T", "r", "di", "da", "yT", "2\"a3d4"} {
			checkAll(t, append(of(ahead), key))
			checkAll(t, append(of(ahead), key, 'x'))
			checkAll(t, append(of(ahead), key, '0'))
		}
	}
}

// eachList hands over all lists of up to most of the keys of set.
func eachList(set []int, most int, yield func([]int)) {
	var grow func(l []int)
	grow = func(l []int) {
		yield(l)
		if len(l) == most {
			return
		}
		for _, key := range set {
			grow(append(l[:len(l):len(l)], key))
		}
	}
	grow(nil)
}

func TestAllOfShortLists(t *testing.T) {
	check := func(l []int) { checkAll(t, l) }
	eachList(of("\"ad20fx\x1b"), 5, check)
	eachList(of("\"aAdciwr91"), 4, check)
	eachList(of("\"a50d"), 7, check)
	eachList(of("yi(`0\x7f\"'~"), 4, check)
}

var usual = of("0123456789\"\"\"abcxyzABCXYZddddccyyfFtTriaiaiawW()[]{}'`hl^$|bBeE%;,sSDpP~uU.jkG/?nNR\x1b\x7f\r !@")

func randomKeys(rnd *rand.Rand, length int) []int {
	var l []int
	for range length {
		switch rnd.Intn(20) {
		case 0:
			l = append(l, everyKey[rnd.Intn(len(everyKey))])
		case 1:
			l = append(l, rnd.Intn(0x110000))
		default:
			l = append(l, usual[rnd.Intn(len(usual))])
		}
	}
	return l
}

func TestAllOfRandomLists(t *testing.T) {
	rnd := rand.New(rand.NewSource(1))
	for step := range 6000 {
		l := randomKeys(rnd, step%97)
		got := checkAll(t, l)
		if want := foldOf(t, l); !got.is(want) {
			t.Fatalf("All(%s): %v, not, one by one, %v", textOf(l), got, want)
		}
	}
}

// Where keys are cut, Take goes on from the Part that was told.
func TestAllOfCutLists(t *testing.T) {
	rnd := rand.New(rand.NewSource(2))
	for range 300 {
		l := randomKeys(rnd, 40)
		whole := checkAll(t, l)
		for cut := range l {
			got := checkAll(t, l[:cut])
			for _, key := range l[cut:] {
				p, c, how, err := keys.Take(got.p, key)
				switch {
				case err != api.OK:
					t.Fatalf("%s cut at %d: %v", textOf(l), cut, err)
				case how == api.Done:
					got.cmds = append(got.cmds, c)
				case how == api.Wrong:
					got.wrongs++
				}
				got.p = p
			}
			if !got.is(whole) {
				t.Fatalf("%s cut at %d: %v, not %v", textOf(l), cut, got, whole)
			}
		}
	}
}

// No length is too much for All.
func TestAllOfLongLists(t *testing.T) {
	for _, count := range []int{api.MaxLine, api.MaxText, api.MaxText + 1, 70000} {
		for _, key := range of("x1q0d\"f") {
			l := slices.Repeat([]int{key}, count)
			checkAll(t, l)
			checkAll(t, append(l, 'w'))
		}
		cmds, p, wrongs := keys.All(slices.Repeat(of("q2d3w"), count))
		if len(cmds) != count || cmds[count-1] != (api.Cmd{Count: 6, Op: 'd', Verb: 'w'}) || p != (api.Part{}) || wrongs != count {
			t.Error(count, len(cmds), p, wrongs)
		}
	}
}

// isCommand: whether keys can tell it at all.
func isCommand(c api.Cmd) bool {
	if !has("\x00"+letters, c.Reg) || !has("\x00dcy", c.Op) {
		return false
	}
	verbs := "hl^$|wWbBeE%;,"
	if c.Op != 0 {
		verbs += "0" + string(rune(c.Op))
	} else {
		verbs += "iaIAsSCDxXpPY~uU.jkG/?nNR"
	}
	switch {
	case has(verbs, c.Verb):
		return c.Arg == 0
	case c.Verb == '0':
		return c.Arg == 0 && c.Count == 0
	case has("fFtT", c.Verb), c.Verb == 'r' && c.Op == 0:
		return c.Arg >= 32 && c.Arg != 127
	case has("ia", c.Verb):
		return has(things, c.Arg)
	}
	return false
}

func wantWrite(c api.Cmd) ([]int, api.Errno) {
	switch {
	case c.Count < 0 || c.Count > 999:
		return nil, api.ErrArg
	case !isCommand(c):
		return nil, api.ErrForm
	}
	var l []int
	if c.Reg != 0 {
		l = []int{34, c.Reg}
	}
	if c.Count != 0 {
		l = append(l, of(fmt.Sprint(c.Count))...)
	}
	if c.Op != 0 {
		l = append(l, c.Op)
	}
	l = append(l, c.Verb)
	if c.Arg != 0 {
		l = append(l, c.Arg)
	}
	return l, api.OK
}

func checkWrite(t *testing.T, c api.Cmd) []int {
	t.Helper()
	want, wantErr := wantWrite(c)
	got, err := keys.Write(c)
	if !slices.Equal(got, want) || err != wantErr || err != api.OK && len(got) != 0 {
		t.Fatalf("Write(%v): %s %v, not %s %v", c, textOf(got), err, textOf(want), wantErr)
	}
	return got
}

func TestWrite(t *testing.T) {
	for _, test := range []struct {
		c    api.Cmd
		want string
		err  api.Errno
	}{
		{api.Cmd{Verb: 'x'}, "x", api.OK},
		{api.Cmd{Verb: 'x', Count: 1}, "1x", api.OK},
		{api.Cmd{Verb: 'x', Count: 10}, "10x", api.OK},
		{api.Cmd{Verb: 'x', Count: 999}, "999x", api.OK},
		{api.Cmd{Verb: 'x', Count: 1000}, "", api.ErrArg},
		{api.Cmd{Verb: 'x', Count: -1}, "", api.ErrArg},
		{api.Cmd{Verb: 'x', Reg: 'b'}, "\"bx", api.OK},
		{api.Cmd{Verb: 'x', Reg: 'Z', Count: 20}, "\"Z20x", api.OK},
		{api.Cmd{Verb: 'x', Reg: '1'}, "", api.ErrForm},
		{api.Cmd{Verb: 'x', Reg: '"'}, "", api.ErrForm},
		{api.Cmd{Verb: 'x', Arg: 'a'}, "", api.ErrForm},
		{api.Cmd{Verb: 'x', Op: 'd'}, "", api.ErrForm},
		{api.Cmd{Verb: 'd'}, "", api.ErrForm},
		{api.Cmd{Verb: 'd', Op: 'd'}, "dd", api.OK},
		{api.Cmd{Verb: 'd', Op: 'd', Count: 2}, "2dd", api.OK},
		{api.Cmd{Verb: 'd', Op: 'd', Arg: 'd'}, "", api.ErrForm},
		{api.Cmd{Verb: 'c', Op: 'd'}, "", api.ErrForm},
		{api.Cmd{Verb: 'w', Op: 'c', Reg: 'a', Count: 6}, "\"a6cw", api.OK},
		{api.Cmd{Verb: 'w', Op: 'x'}, "", api.ErrForm},
		{api.Cmd{Verb: 'w', Op: 'l'}, "", api.ErrForm},
		{api.Cmd{Verb: '0'}, "0", api.OK},
		{api.Cmd{Verb: '0', Reg: 'a'}, "\"a0", api.OK},
		{api.Cmd{Verb: '0', Count: 2}, "", api.ErrForm},
		{api.Cmd{Verb: '0', Op: 'd', Count: 2}, "2d0", api.OK},
		{api.Cmd{Verb: '1'}, "", api.ErrForm},
		{api.Cmd{Verb: '1', Op: 'd'}, "", api.ErrForm},
		{api.Cmd{Verb: '"', Arg: 'a'}, "", api.ErrForm},
		{api.Cmd{Verb: '"'}, "", api.ErrForm},
		{api.Cmd{Verb: 'f', Arg: 'x'}, "fx", api.OK},
		{api.Cmd{Verb: 'F', Arg: 32}, "F ", api.OK},
		{api.Cmd{Verb: 't', Arg: 31}, "", api.ErrForm},
		{api.Cmd{Verb: 'T', Arg: 127}, "", api.ErrForm},
		{api.Cmd{Verb: 'f'}, "", api.ErrForm},
		{api.Cmd{Verb: 'f', Arg: -1}, "", api.ErrForm},
		{api.Cmd{Verb: 't', Arg: '3', Op: 'y', Count: 12}, "12yt3", api.OK},
		{api.Cmd{Verb: 'r', Arg: 0x20ac}, "r\u20ac", api.OK},
		{api.Cmd{Verb: 'r', Arg: 'a', Op: 'd'}, "", api.ErrForm},
		{api.Cmd{Verb: 'r'}, "", api.ErrForm},
		{api.Cmd{Verb: 'i'}, "i", api.OK},
		{api.Cmd{Verb: 'a', Count: 3}, "3a", api.OK},
		{api.Cmd{Verb: 'i', Arg: 'w'}, "", api.ErrForm},
		{api.Cmd{Verb: 'i', Arg: 'w', Op: 'd'}, "diw", api.OK},
		{api.Cmd{Verb: 'a', Arg: '`', Op: 'c', Count: 7}, "7ca`", api.OK},
		{api.Cmd{Verb: 'i', Op: 'd'}, "", api.ErrForm},
		{api.Cmd{Verb: 'a', Arg: 'q', Op: 'd'}, "", api.ErrForm},
		{api.Cmd{}, "", api.ErrForm},
		{api.Cmd{Verb: 27}, "", api.ErrForm},
		// Two errors: the one of the Count is told first.
		{api.Cmd{Verb: 'q', Count: 1000}, "", api.ErrArg},
		{api.Cmd{Verb: 'x', Reg: 1, Count: -1}, "", api.ErrArg},
	} {
		got, err := keys.Write(test.c)
		if !slices.Equal(got, of(test.want)) || err != test.err {
			t.Errorf("Write(%v): %s %v, not %q %v", test.c, textOf(got), err, test.want, test.err)
		}
		checkWrite(t, test.c)
	}
}

func TestWriteOfEveryVerb(t *testing.T) {
	for _, verb := range everyKey {
		for _, op := range of("\x00dcyx") {
			for _, arg := range append(of("\x00\x1b\x7f d0w(`q~\u20ac"), -1, math.MaxInt, 1<<32+'w') {
				for _, count := range []int{0, 1, 10, 999} {
					checkWrite(t, api.Cmd{Count: count, Op: op, Verb: verb, Arg: arg})
					checkWrite(t, api.Cmd{Count: count, Reg: 'k', Op: op, Verb: verb, Arg: arg})
				}
				checkWrite(t, api.Cmd{Count: 1000, Op: op, Verb: verb, Arg: arg})
			}
		}
	}
}

// Each part of a command by itself may be any number.
func TestWriteOfAnyNumbers(t *testing.T) {
	for _, c := range []api.Cmd{{Verb: 'x'}, {Verb: '0'}, {Count: 3, Verb: 'p'}, {Reg: 'a', Verb: 'P'}, {Op: 'd', Verb: 'w'}, {Op: 'c', Verb: 'c'}, {Verb: 'f', Arg: 'x'},
		{Op: 'd', Verb: 'i', Arg: '('}, {Count: 9, Reg: 'Q', Op: 'y', Verb: 'a', Arg: 'w'}, {Verb: 'r', Arg: 'r'}, {Verb: 'i'}, {}} {
		for _, n := range append(of(letters), everyKey...) {
			for _, field := range []*int{&c.Count, &c.Reg, &c.Op, &c.Verb, &c.Arg} {
				was := *field
				*field = n
				checkWrite(t, c)
				*field = was
			}
		}
	}
}

func TestWriteOfEveryCount(t *testing.T) {
	for count := -3; count < 1003; count++ {
		for _, c := range []api.Cmd{{Verb: 'x'}, {Verb: '0'}, {Op: 'd', Verb: '0'}, {Reg: 'a', Op: 'y', Verb: 'y'}, {Verb: 'f', Arg: '0'}} {
			c.Count = count
			checkWrite(t, c)
		}
	}
}

// What All tells can be written, and is told again of what is written.
func TestWriteOfWhatIsTold(t *testing.T) {
	rnd := rand.New(rand.NewSource(3))
	for range 3000 {
		for _, c := range checkAll(t, randomKeys(rnd, 60)).cmds {
			l := checkWrite(t, c)
			if got := checkAll(t, l); !got.is(result{cmds: []api.Cmd{c}}) || len(l) == 0 {
				t.Fatalf("%v is written as %s: %v", c, textOf(l), got)
			}
		}
	}
}

func TestWhatIsHandedInStaysAsItWas(t *testing.T) {
	memory := append(of("xx2d3w\"ayyqfz"), of("dddd")...)
	was := slices.Clone(memory)
	for from := range memory {
		for to := from; to <= len(memory); to++ {
			l := memory[from:to]
			cmds, _, _ := keys.All(l)
			for i := range cmds[:cap(cmds)] {
				cmds[:cap(cmds)][i] = api.Cmd{Count: -7, Verb: -7}
			}
			if !slices.Equal(memory, was) {
				t.Fatalf("%d to %d: %v was %v", from, to, memory, was)
			}
			checkAll(t, l)
		}
	}
}

func TestAnswersAreNewMemory(t *testing.T) {
	for _, c := range []api.Cmd{{Verb: 'x'}, {Count: 12, Reg: 'a', Op: 'd', Verb: 'w'}, {Op: 'd', Verb: 'i', Arg: 'w'}, {Count: 999, Verb: 'f', Arg: 'x'}} {
		first, second := checkWrite(t, c), checkWrite(t, c)
		want := slices.Clone(second)
		for i := range first[:cap(first)] {
			first[:cap(first)][i] = -7
		}
		if third := checkWrite(t, c); !slices.Equal(second, want) || !slices.Equal(third, want) {
			t.Errorf("%v: %v %v, not %v", c, second, third, want)
		}
	}
	l := of("xxxp2d3wx")
	first, _, _ := keys.All(l)
	second, _, _ := keys.All(l)
	for i := range first[:cap(first)] {
		first[:cap(first)][i] = api.Cmd{Verb: -7}
	}
	if !slices.Equal(second, wantAll(l).cmds) {
		t.Error(second)
	}
	checkAll(t, l)
}

// What is left over of one list is not the beginning of the next one.
func TestNothingIsKeptFromCallToCall(t *testing.T) {
	l := of("2d3w")
	for i, left := range []string{"2", "\"", "\"a", "d", "2d3", "f", "di", "q", "9\"a9d9"} {
		for range 2 {
			checkAll(t, of(left))
			checkAll(t, l)
			checkTake(t, api.Part{First: 5, Op: 'd'}, '7')
			checkTake(t, api.Part{}, 'w')
			checkWrite(t, api.Cmd{Count: 3, Reg: 'a', Op: 'd', Verb: 'w'})
			checkWrite(t, api.Cmd{Verb: 'w'})
			checkWrite(t, api.Cmd{Verb: 'd'})
			checkTakeError(t, api.Part{Second: 1}, 'x')
		}
		l[0] = '1' + i
		l[3] = of("hlebWBE$0")[i]
	}
}

func TestManyAskAtOneTime(t *testing.T) {
	l := of("2d3w\"ayyqfzdiwp")
	want := wantAll(l)
	wrong := make([]int, 8)
	var hands sync.WaitGroup
	for hand := range wrong {
		hands.Go(func() {
			for range 500 {
				cmds, p, wrongs := keys.All(l)
				written, err := keys.Write(cmds[0])
				if !(result{cmds, p, wrongs}).is(want) || !slices.Equal(written, of("6dw")) || err != api.OK {
					wrong[hand]++
				}
			}
		})
	}
	hands.Wait()
	for hand, count := range wrong {
		if count > 0 {
			t.Errorf("hand %d: %d times", hand, count)
		}
	}
}
