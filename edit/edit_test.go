package edit_test

import (
	"fmt"
	"math"
	"math/rand"
	"reflect"
	"slices"
	"strings"
	"testing"

	"fairhand/api"
	"fairhand/edit"
	"fairhand/keys"
	"fairhand/motion"
	"fairhand/object"
	"fairhand/reg"
	"fairhand/splice"
)

const (
	motions = "hl0^bB$|wWeE%"
	finds   = "fFtT"
	// verbs are all that a command without an Op may have, and behind them some
	// that are none; verbsWithOp likewise.
	verbs       = "xXsSCDY" + motions + finds + ";,pP~riIaAR" + "uU.jkG/?nNdcy\"q8\x00"
	verbsWithOp = motions + finds + ";,iadcy" + "xXsSCDYpP~rIARuU.jkG/?nN\"q8\x00"
	things      = "wW()[]{}\"'`"
)

// odd are numbers that are no key, no count and no place.
var odd = []int{math.MinInt, math.MinInt + 1, math.MinInt32, -999, -'d', -1, 1000, 1 << 8, 1<<8 + 'd', 1<<16 + 'x', 1 << 32, 1<<32 + 1, 1<<32 + 'd',
	1<<32 + 'f', math.MinInt + 'c', math.MinInt + 1, math.MaxInt32, math.MaxInt - 1, math.MaxInt}

// of a text: its characters.
func of(s string) []int {
	var l []int
	for _, c := range s {
		l = append(l, int(c))
	}
	return l
}

func line(s string, at int) api.Line { return api.Line{Text: of(s), At: at} }

// numbers: so many, no two alike, from first on.
func numbers(first, count int) []int {
	var l []int
	for i := range count {
		l = append(l, first+i)
	}
	return l
}

func brief(v any) string {
	s := fmt.Sprint(v)
	return s[:min(len(s), 400)]
}

func has(s string, key int) bool {
	return key >= 0 && key < 128 && strings.IndexByte(s, byte(key)) >= 0
}

func sameLine(a, b api.Line) bool { return a.At == b.At && slices.Equal(a.Text, b.Text) }

func sameRegs(a, b api.Regs) bool {
	for k := range a {
		if !slices.Equal(a[k], b[k]) {
			return false
		}
	}
	return true
}

func sameEdit(a, b []api.Splice) bool {
	return slices.EqualFunc(a, b, func(s, o api.Splice) bool {
		return s.From == o.From && s.To == o.To && slices.Equal(s.Text, o.Text)
	})
}

func same(a, b api.Result) bool {
	return sameLine(a.Line, b.Line) && sameRegs(a.Regs, b.Regs) && a.Find == b.Find && a.Mode == b.Mode && sameEdit(a.Edit, b.Edit)
}

// wantCheck goes by places one by one.
func wantCheck(l api.Line) api.Errno {
	if len(l.Text) > 200 {
		return api.ErrLarge
	}
	if l.At == 0 {
		return api.OK
	}
	for at := range l.Text {
		if at == l.At {
			return api.OK
		}
	}
	return api.ErrArg
}

// asked is a command that is done to a line.
type asked struct {
	l    api.Line
	r    api.Regs
	last api.Find
	c    api.Cmd
}

func (a asked) String() string {
	return fmt.Sprintf("Do(%q %d, last %v, %s)", textOf(a.l.Text), a.l.At, a.last, told(a.c))
}

func textOf(l []int) string {
	var s strings.Builder
	for _, c := range l {
		s.WriteRune(rune(c))
	}
	return s.String()[:min(s.Len(), 250)]
}

func told(c api.Cmd) string {
	return fmt.Sprintf("%d %d %q %q %q", c.Count, c.Reg, rune(c.Op), rune(c.Verb), rune(c.Arg))
}

// wantDo tells Do along the document's words: what it tells of a command is
// found anew from the characters that stay, come and go.
func wantDo(a asked) (api.Result, api.Errno) {
	if err := wantCheck(a.l); err != api.OK {
		return api.Result{}, err
	}
	if a.c.Count < 0 || a.c.Count > 999 || !has("\x00fFtT", a.last.Key) {
		return api.Result{}, api.ErrArg
	}
	if !has("\x00dcy", a.c.Op) {
		return api.Result{}, api.ErrKey
	}
	c := a.c
	forms := []string{"x", "dl", "X", "dh", "s", "cl", "S", "cc", "C", "c$", "D", "d$", "Y", "yy"}
	for i := 0; i < len(forms); i += 2 {
		if c.Op == 0 && a.c.Verb == int(forms[i][0]) {
			c.Op, c.Verb = int(forms[i+1][0]), int(forms[i+1][1])
		}
	}
	got, err := api.Result{}, api.OK
	switch {
	case c.Op != 0:
		got, err = wantOp(a, c)
	case has(motions+finds+";,", c.Verb):
		got, err = wantMotion(a, c)
	default:
		got, err = wantOther(a, c)
	}
	if err != api.OK {
		return api.Result{}, err
	}
	if has(finds, c.Verb) {
		got.Find = api.Find{Key: c.Verb, Arg: c.Arg}
	}
	got.Edit = wantEdit(a.l.Text, got.Line.Text)
	return got, api.OK
}

func (a asked) as() api.Result { return api.Result{Line: a.l, Regs: a.r, Find: a.last} }

// wantEdit: no beginning and no end of its one splice is in both texts.
func wantEdit(old, now []int) []api.Splice {
	if slices.Equal(old, now) {
		return nil
	}
	from := 0
	for from < min(len(old), len(now)) && old[from] == now[from] {
		from++
	}
	less := 0
	for less < min(len(old), len(now))-from && old[len(old)-1-less] == now[len(now)-1-less] {
		less++
	}
	return []api.Splice{{From: from, To: len(old) - less, Text: now[from : len(now)-less]}}
}

// wantMove puts for `;` and `,` the motion that is meant.
func wantMove(a asked, c api.Cmd) (api.Move, bool) {
	switch string(rune(c.Verb)) + string(rune(a.last.Key)) {
	case ";\x00", ",\x00":
		return api.Move{}, false
	case ";f", ",F":
		return api.Move{Key: 'f', Count: c.Count, Arg: a.last.Arg}, true
	case ";F", ",f":
		return api.Move{Key: 'F', Count: c.Count, Arg: a.last.Arg}, true
	case ";t", ",T":
		return api.Move{Key: 't', Count: c.Count, Arg: a.last.Arg}, true
	case ";T", ",t":
		return api.Move{Key: 'T', Count: c.Count, Arg: a.last.Arg}, true
	}
	return api.Move{Key: c.Verb, Count: c.Count, Arg: c.Arg}, true
}

func wantMotion(a asked, c api.Cmd) (api.Result, api.Errno) {
	m, ok := wantMove(a, c)
	if !ok {
		return api.Result{}, api.ErrFail
	}
	at, _, err := motion.Go(a.l.Text, a.l.At, m, false)
	got := a.as()
	got.Line.At = at
	return got, err
}

func wantSpan(a asked, c api.Cmd) (int, int, api.Errno) {
	m, ok := wantMove(a, c)
	switch {
	case c.Verb == c.Op:
		return 0, len(a.l.Text), api.OK
	case c.Verb == 'i':
		return object.Of(a.l.Text, a.l.At, false, c.Arg)
	case c.Verb == 'a':
		return object.Of(a.l.Text, a.l.At, true, c.Arg)
	case !has(motions+finds+";,", c.Verb):
		return 0, 0, api.ErrKey
	case !ok:
		return 0, 0, api.ErrFail
	}
	return motion.Range(a.l.Text, a.l.At, m)
}

func wantOp(a asked, c api.Cmd) (api.Result, api.Errno) {
	from, to, err := wantSpan(a, c)
	if err != api.OK {
		return api.Result{}, err
	}
	var gone, left []int
	for at, ch := range a.l.Text {
		if at >= from && at < to {
			gone = append(gone, ch)
		} else {
			left = append(left, ch)
		}
	}
	got := a.as()
	if len(gone) == 0 && c.Op != 'c' {
		return api.Result{}, api.ErrFail
	}
	if len(gone) > 0 {
		if got.Regs, err = reg.Put(a.r, c.Reg, gone); err != api.OK {
			return api.Result{}, err
		}
	}
	switch {
	case c.Op == 'c':
		got.Line, got.Mode = api.Line{Text: left, At: from}, 1
	case c.Op == 'd' && from > 0 && from == len(left):
		got.Line = api.Line{Text: left, At: from - 1}
	case c.Op == 'd':
		got.Line = api.Line{Text: left, At: from}
	case c.Verb != 'y' && from < a.l.At:
		got.Line.At = from
	}
	return got, api.OK
}

// wantOther tells of the verbs of P46, character by character.
func wantOther(a asked, c api.Cmd) (api.Result, api.Errno) {
	n, at, text, got := max(1, c.Count), a.l.At, a.l.Text, a.as()
	switch c.Verb {
	case 'p', 'P':
		return wantPut(a, c, n)
	case '~':
		if len(text) == 0 {
			return got, api.ErrFail
		}
		var now []int
		for k, ch := range text {
			letter := ch >= 'a' && ch <= 'z' || ch >= 'A' && ch <= 'Z'
			if k >= at && k < at+n && letter {
				ch ^= 32
			}
			now = append(now, ch)
		}
		got.Line = api.Line{Text: now, At: slices.Min([]int{at + n, len(text) - 1})}
	case 'r':
		if n > len(text)-at {
			return got, api.ErrFail
		}
		got.Line = api.Line{Text: slices.Clone(text), At: at + n - 1}
		for k := at; k < at+n; k++ {
			got.Line.Text[k] = c.Arg
		}
	case 'i', 'I', 'a', 'A':
		got.Mode = 1
		first := 0
		for first < len(text)-1 && (text[first] == ' ' || text[first] == '\t') {
			first++
		}
		got.Line.At = map[int]int{'i': at, 'I': first, 'a': min(at+1, len(text)), 'A': len(text)}[c.Verb]
	case 'R':
		got.Mode = 2
	default:
		return got, api.ErrKey
	}
	return got, api.OK
}

func wantPut(a asked, c api.Cmd, n int) (api.Result, api.Errno) {
	text, got := a.l.Text, a.as()
	once, err := reg.Get(a.r, c.Reg)
	if err != api.OK {
		return got, err
	}
	if n > (200-len(text))/len(once) {
		return got, api.ErrLarge
	}
	at := a.l.At
	if c.Verb == 'p' && len(text) != 0 {
		at++
	}
	now := slices.Clone(text[:at])
	for range n {
		now = append(now, once...)
	}
	got.Line = api.Line{Text: append(now, text[at:]...), At: len(now) - 1}
	return got, api.OK
}

// check asks Do, and what holds of each answer.
func check(t *testing.T, a asked) api.Result {
	t.Helper()
	want, wantErr := wantDo(a)
	got, err := edit.Do(a.l, a.r, a.last, a.c)
	if !same(got, want) || err != wantErr {
		t.Fatalf("%v: %s %v, not %s %v", a, brief(got), err, brief(want), wantErr)
	}
	if err != api.OK {
		if !reflect.DeepEqual(got, api.Result{}) {
			t.Fatalf("%v: %s beside %v", a, brief(got), err)
		}
		return got
	}
	if got.Mode == api.Command && edit.Check(got.Line) != api.OK {
		t.Fatalf("%v: %v", a, got.Line)
	}
	now, err := splice.Apply(a.l.Text, got.Edit)
	if err != api.OK || !slices.Equal(now, got.Line.Text) {
		t.Fatalf("%v: the Edit %v makes %v of it", a, got.Edit, now)
	}
	back, _ := splice.Undo(a.l.Text, got.Edit)
	if was, err := splice.Apply(now, back); err != api.OK || !slices.Equal(was, a.l.Text) {
		t.Fatalf("%v: back it is %v", a, was)
	}
	return got
}

func checkError(t *testing.T, a asked, want api.Errno) {
	t.Helper()
	check(t, a)
	if _, err := edit.Do(a.l, a.r, a.last, a.c); err != want {
		t.Errorf("%v: %v, not %v", a, err, want)
	}
}

func TestCheck(t *testing.T) {
	for _, test := range []struct {
		long, at int
		want     api.Errno
	}{
		{0, 0, api.OK}, {0, 1, api.ErrArg}, {0, -1, api.ErrArg},
		{1, 0, api.OK}, {1, 1, api.ErrArg}, {1, -1, api.ErrArg},
		{2, 1, api.OK}, {2, 2, api.ErrArg}, {3, 2, api.OK}, {3, 3, api.ErrArg}, {3, 4, api.ErrArg},
		{200, 0, api.OK}, {200, 199, api.OK}, {200, 200, api.ErrArg}, {200, -1, api.ErrArg},
		{201, 0, api.ErrLarge}, {201, 200, api.ErrLarge}, {201, 201, api.ErrLarge}, {201, -1, api.ErrLarge},
		{4096, 0, api.ErrLarge}, {4097, 5000, api.ErrLarge}, {100000, 7, api.ErrLarge},
		{3, math.MinInt, api.ErrArg}, {3, math.MaxInt, api.ErrArg}, {3, 1 << 32, api.ErrArg},
	} {
		l := api.Line{Text: numbers(-5, test.long), At: test.at}
		if err := edit.Check(l); err != test.want || err != wantCheck(l) {
			t.Errorf("%d at %d: %v, not %v", test.long, test.at, err, test.want)
		}
		// Do looks at the line first.
		if test.want != api.OK {
			for _, c := range []api.Cmd{{Verb: 'i'}, {Count: -1}, {Op: 'q'}, {Verb: 'q'}, {Op: 'd', Verb: 'd'}} {
				checkError(t, asked{l: l, c: c}, test.want)
				checkError(t, asked{l: l, last: api.Find{Key: 'q'}, c: c}, test.want)
			}
		}
	}
	for long := range 203 {
		for at := -2; at < 205; at++ {
			l := api.Line{Text: make([]int, long), At: at}
			if err := edit.Check(l); err != wantCheck(l) {
				t.Fatalf("%d at %d: %v", long, at, err)
			}
		}
	}
}

// done is what a command makes of a line, as a test tells it.
type done struct {
	text string
	at   int
	cmd  string
	want string
	now  int
	mode int
	reg  string
}

// cmd out of keys, by what chapter 13 promises.
func cmd(t *testing.T, s string) api.Cmd {
	t.Helper()
	cmds, p, wrongs := keys.All(of(s))
	if len(cmds) != 1 || p != (api.Part{}) || wrongs != 0 {
		t.Fatalf("%q is no command", s)
	}
	return cmds[0]
}

func checkDone(t *testing.T, r api.Regs, last api.Find, test done) {
	t.Helper()
	a := asked{l: line(test.text, test.at), r: r, last: last, c: cmd(t, test.cmd)}
	got := check(t, a)
	if !sameLine(got.Line, line(test.want, test.now)) || got.Mode != test.mode || !slices.Equal(got.Regs[0], of(test.reg)) {
		t.Errorf("%q: %v: %q %d %d %q", test.cmd, a, textOf(got.Line.Text), got.Line.At, got.Mode, textOf(got.Regs[0]))
	}
}

func TestMotions(t *testing.T) {
	for _, test := range []done{
		{"one two", 4, "h", "one two", 3, 0, ""},
		{"one two", 4, "9h", "one two", 0, 0, ""},
		{"one two", 4, "l", "one two", 5, 0, ""},
		{"one two", 4, "99l", "one two", 6, 0, ""},
		{"one two", 4, "0", "one two", 0, 0, ""},
		{"  one", 4, "^", "  one", 2, 0, ""},
		{"one two", 0, "$", "one two", 6, 0, ""},
		{"one two", 0, "3|", "one two", 2, 0, ""},
		{"one two", 0, "w", "one two", 4, 0, ""},
		{"a-b c", 0, "W", "a-b c", 4, 0, ""},
		{"one two", 4, "b", "one two", 0, 0, ""},
		{"x a-b", 4, "B", "x a-b", 2, 0, ""},
		{"one two", 0, "2e", "one two", 6, 0, ""},
		{"a-b c", 0, "E", "a-b c", 2, 0, ""},
		{"(a)", 0, "%", "(a)", 2, 0, ""},
		{"one two", 0, "fo", "one two", 6, 0, ""},
		{"one two", 0, "to", "one two", 5, 0, ""},
		{"one two", 6, "Fo", "one two", 0, 0, ""},
		{"one two", 6, "To", "one two", 1, 0, ""},
		{"", 0, "0", "", 0, 0, ""},
		{"", 0, "^", "", 0, 0, ""},
	} {
		checkDone(t, api.Regs{}, api.Find{}, test)
	}
	for _, key := range []string{"h", "l", "$", "3|", "w", "W", "b", "B", "e", "E", "%", "fa", "Fa", "ta", "Ta"} {
		checkError(t, asked{c: cmd(t, key)}, api.ErrFail)
	}
	l := line("one", 2)
	for _, key := range []string{"l", "w", "W", "e", "E", "%", "fe", "tn", "Fe", "2Fn", "Tx"} {
		checkError(t, asked{l: l, c: cmd(t, key)}, api.ErrFail)
	}
}

func TestOperators(t *testing.T) {
	for _, test := range []done{
		{"one two", 0, "dw", "two", 0, 0, "one "},
		{"one two", 4, "dw", "one ", 3, 0, "two"},
		{"one two", 4, "cw", "one ", 4, 1, "two"},
		{"one two", 4, "yw", "one two", 4, 0, "two"},
		{"one two", 4, "db", "two", 0, 0, "one "},
		{"one two", 4, "yb", "one two", 0, 0, "one "},
		{"one two", 5, "cb", "one wo", 4, 1, "t"},
		{"one two", 3, "dd", "", 0, 0, "one two"},
		{"one two", 3, "9dd", "", 0, 0, "one two"},
		{"one two", 3, "cc", "", 0, 1, "one two"},
		{"one two", 3, "yy", "one two", 3, 0, "one two"},
		{"one two", 1, "d$", "o", 0, 0, "ne two"},
		{"one two", 1, "c$", "o", 1, 1, "ne two"},
		{"one two", 0, "d$", "", 0, 0, "one two"},
		{"one two", 6, "dl", "one tw", 5, 0, "o"},
		{"one two", 6, "cl", "one tw", 6, 1, "o"},
		{"one two", 2, "2d2l", "ono", 2, 0, "e tw"},
		{"one two", 4, "dfo", "one ", 3, 0, "two"},
		{"one two", 4, "dto", "one o", 4, 0, "tw"},
		{"one two", 4, "dFe", "ontwo", 2, 0, "e "},
		{"one two", 4, "yTe", "one two", 3, 0, " "},
		{"f(a b)", 0, "d%", "", 0, 0, "f(a b)"},
		{"f(a b)", 5, "y%", "f(a b)", 1, 0, "(a b)"},
		{"f(a b)", 3, "di(", "f()", 2, 0, "a b"},
		{"f(a b)", 3, "ci)", "f()", 2, 1, "a b"},
		{"f(a b)", 3, "yi(", "f(a b)", 2, 0, "a b"},
		{"f(a b)", 3, "da(", "f", 0, 0, "(a b)"},
		{"f(a b)", 3, "ya)", "f(a b)", 1, 0, "(a b)"},
		{"f()", 1, "ci(", "f()", 2, 1, ""},
		{"a 'b' c", 0, "yi'", "a 'b' c", 0, 0, "b"},
		{"a 'b' c", 0, "di'", "a '' c", 3, 0, "b"},
		{"a 'b' c", 0, "da'", "a  c", 2, 0, "'b'"},
		{"one two", 5, "diw", "one ", 3, 0, "two"},
		{"one two", 5, "daw", "one", 2, 0, " two"},
		{"one two", 5, "ciw", "one ", 4, 1, "two"},
		{"a-b c", 1, "yiW", "a-b c", 0, 0, "a-b"},
		{"  one", 4, "d^", "  e", 2, 0, "on"},
		{"one", 0, "c0", "one", 0, 1, ""},
		{"one", 2, "d0", "e", 0, 0, "on"},
		{"", 0, "cc", "", 0, 1, ""},
		{"", 0, "S", "", 0, 1, ""},
		{"one two", 4, "x", "one wo", 4, 0, "t"},
		{"one two", 4, "9x", "one ", 3, 0, "two"},
		{"one two", 4, "2X", "ontwo", 2, 0, "e "},
		{"one two", 4, "2s", "one o", 4, 1, "tw"},
		{"one two", 4, "S", "", 0, 1, "one two"},
		{"one two", 4, "C", "one ", 4, 1, "two"},
		{"one two", 4, "D", "one ", 3, 0, "two"},
		{"one two", 4, "Y", "one two", 4, 0, "one two"},
	} {
		checkDone(t, api.Regs{}, api.Find{}, test)
	}
}

func TestOperatorsThatFail(t *testing.T) {
	l := line("f() a", 0)
	for _, test := range []struct {
		cmd  api.Cmd
		want api.Errno
	}{
		// An empty span.
		{cmd(t, "d0"), api.ErrFail},
		{cmd(t, "y^"), api.ErrFail},
		{cmd(t, "X"), api.ErrFail},
		{api.Cmd{Op: 'd', Verb: '|'}, api.ErrFail},
		{api.Cmd{Op: 'y', Verb: '|'}, api.ErrFail},
		{api.Cmd{Op: 'c', Verb: '|'}, api.OK},
		{cmd(t, "c0"), api.OK},
		// What the motion or the thing tells.
		{cmd(t, "ch"), api.ErrFail},
		{cmd(t, "cb"), api.ErrFail},
		{cmd(t, "cfx"), api.ErrFail},
		{cmd(t, "c;"), api.ErrFail},
		{cmd(t, "y,"), api.ErrFail},
		{cmd(t, "di["), api.ErrNone},
		{cmd(t, "ca\""), api.ErrNone},
		{cmd(t, "yi("), api.ErrNone},
		{api.Cmd{Op: 'd', Verb: 'i', Arg: 'q'}, api.ErrKey},
		{api.Cmd{Op: 'd', Verb: 'a'}, api.ErrKey},
		// Verbs that no operator has.
		{api.Cmd{Op: 'd', Verb: 'c'}, api.ErrKey},
		{api.Cmd{Op: 'c', Verb: 'd'}, api.ErrKey},
		{api.Cmd{Op: 'y', Verb: 'd'}, api.ErrKey},
		{api.Cmd{Op: 'd', Verb: 'x'}, api.ErrKey},
		{api.Cmd{Op: 'd', Verb: 'D'}, api.ErrKey},
		{api.Cmd{Op: 'y', Verb: 'Y'}, api.ErrKey},
		{api.Cmd{Op: 'y', Verb: 'p'}, api.ErrKey},
		{api.Cmd{Op: 'c', Verb: 'I'}, api.ErrKey},
		{api.Cmd{Op: 'c'}, api.ErrKey},
		// The register: it is looked at only if something is put into it.
		{api.Cmd{Op: 'd', Verb: 'w', Reg: '1'}, api.ErrKey},
		{api.Cmd{Op: 'y', Verb: 'y', Reg: 1}, api.ErrKey},
		{api.Cmd{Verb: 'x', Reg: -1}, api.ErrKey},
		{api.Cmd{Op: 'd', Verb: '0', Reg: '1'}, api.ErrFail},
		{api.Cmd{Op: 'c', Verb: '0', Reg: '1'}, api.OK},
		{api.Cmd{Op: 'c', Verb: 'c', Reg: '1'}, api.ErrKey},
	} {
		checkError(t, asked{l: l, c: test.cmd}, test.want)
	}
	// Within brackets that hold nothing.
	l.At = 1
	checkError(t, asked{l: l, c: cmd(t, "di(")}, api.ErrFail)
	checkError(t, asked{l: l, c: cmd(t, "yi)")}, api.ErrFail)
	for _, key := range []string{"dd", "yy", "Y", "x", "X", "s", "C", "D", "dw", "c$", "d0", "c%"} {
		checkError(t, asked{c: cmd(t, key)}, api.ErrFail)
	}
	for _, key := range []string{"diw", "caw", "yi(", "da'"} {
		checkError(t, asked{c: cmd(t, key)}, api.ErrNone)
	}
	checkError(t, asked{c: api.Cmd{Op: 'c', Verb: 'c', Reg: '1'}}, api.OK)
}

func TestRegisters(t *testing.T) {
	r := api.Regs{0: of("zero"), 1: of("a"), 2: of("b")}
	got := check(t, asked{l: line("one two", 0), r: r, c: cmd(t, "\"bdw")})
	if want := (api.Regs{0: of("one "), 1: of("a"), 2: of("one ")}); !sameRegs(got.Regs, want) {
		t.Error(got.Regs)
	}
	got = check(t, asked{l: line("one two", 0), r: r, c: cmd(t, "\"Byw")})
	if want := (api.Regs{0: of("bone "), 1: of("a"), 2: of("bone ")}); !sameRegs(got.Regs, want) {
		t.Error(got.Regs)
	}
	// Without anything in the span the registers stay.
	got = check(t, asked{l: line("one two", 0), r: r, c: cmd(t, "\"bc0")})
	if !sameRegs(got.Regs, r) {
		t.Error(got.Regs)
	}
	long := numbers(1, 198)
	for _, key := range []string{"\"C2x", "\"C2dl", "\"C2yl", "\"C2s"} {
		check(t, asked{l: line("one two", 0), r: api.Regs{3: long}, c: cmd(t, key)})
		checkError(t, asked{l: line("one two", 0), r: api.Regs{3: numbers(1, 199)}, c: cmd(t, key)}, api.ErrLarge)
		checkError(t, asked{l: line("one two", 0), r: api.Regs{3: numbers(1, 199)}, c: cmd(t, strings.ToLower(key))}, api.OK)
	}
	for k, name := range letters {
		text := numbers(100*k, 1+k%3)
		got := check(t, asked{l: api.Line{Text: text}, r: r, c: api.Cmd{Op: 'd', Verb: 'd', Reg: int(name)}})
		again := check(t, asked{l: got.Line, r: got.Regs, c: api.Cmd{Verb: 'p', Reg: int(name)}})
		want, _ := reg.Get(got.Regs, int(name))
		if len(want) == 0 || !slices.Equal(again.Line.Text, want) {
			t.Errorf("%q: %v, not %v", name, again.Line, want)
		}
	}
}

const letters = "abcdefghijklmnopqrstuvwxyzABCDEFGHIJKLMNOPQRSTUVWXYZ"

func TestFind(t *testing.T) {
	l, q := line("a-b-c-d", 3), api.Find{Key: 't', Arg: 'q'}
	for _, test := range []struct {
		last api.Find
		cmd  string
		at   int
		want api.Find
	}{
		{q, "f-", 5, api.Find{Key: 'f', Arg: '-'}},
		{q, "F-", 1, api.Find{Key: 'F', Arg: '-'}},
		{q, "td", 5, api.Find{Key: 't', Arg: 'd'}},
		{q, "Ta", 1, api.Find{Key: 'T', Arg: 'a'}},
		{q, "dfd", 2, api.Find{Key: 'f', Arg: 'd'}},
		{q, "yF-", 1, api.Find{Key: 'F', Arg: '-'}},
		{q, "ctd", 3, api.Find{Key: 't', Arg: 'd'}},
		{q, "dTa", 1, api.Find{Key: 'T', Arg: 'a'}},
		// What is looked for is kept by all others.
		{q, "l", 4, q},
		{q, "x", 3, q},
		{q, "dd", 0, q},
		{q, "i", 3, q},
		{q, "3~", 6, q},
		{q, "diw", 3, q},
		{q, "r-", 3, q},
		{api.Find{Arg: 'x'}, "l", 4, api.Find{Arg: 'x'}},
		{api.Find{Key: 'f', Arg: '-'}, ";", 5, api.Find{Key: 'f', Arg: '-'}},
		{api.Find{Key: 'f', Arg: '-'}, ",", 1, api.Find{Key: 'f', Arg: '-'}},
		{api.Find{Key: 'F', Arg: 'a'}, ";", 0, api.Find{Key: 'F', Arg: 'a'}},
		{api.Find{Key: 'F', Arg: 'd'}, ",", 6, api.Find{Key: 'F', Arg: 'd'}},
		{api.Find{Key: 't', Arg: 'd'}, ";", 5, api.Find{Key: 't', Arg: 'd'}},
		{api.Find{Key: 't', Arg: 'a'}, ",", 1, api.Find{Key: 't', Arg: 'a'}},
		{api.Find{Key: 'T', Arg: 'a'}, ";", 1, api.Find{Key: 'T', Arg: 'a'}},
		{api.Find{Key: 'T', Arg: 'd'}, ",", 5, api.Find{Key: 'T', Arg: 'd'}},
		{api.Find{Key: 'f', Arg: '-'}, "d;", 3, api.Find{Key: 'f', Arg: '-'}},
		{api.Find{Key: 'f', Arg: '-'}, "d,", 1, api.Find{Key: 'f', Arg: '-'}},
		{api.Find{Key: 'T', Arg: 'a'}, "y;", 1, api.Find{Key: 'T', Arg: 'a'}},
	} {
		got := check(t, asked{l: l, last: test.last, c: cmd(t, test.cmd)})
		if got.Line.At != test.at || got.Find != test.want {
			t.Errorf("%v %q: at %d, %v", test.last, test.cmd, got.Line.At, got.Find)
		}
	}
	// The Count is that of the command.
	if got := check(t, asked{l: line("a-b-c-d", 0), last: api.Find{Key: 'f', Arg: '-'}, c: cmd(t, "3;")}); got.Line.At != 5 {
		t.Error(got)
	}
	if got := check(t, asked{l: line("a-b-c-d", 6), last: api.Find{Key: 't', Arg: '-'}, c: cmd(t, "2,")}); got.Line.At != 4 {
		t.Error(got)
	}
	// An Arg of `;` means nothing.
	if got := check(t, asked{l: l, last: api.Find{Key: 'f', Arg: 'c'}, c: api.Cmd{Verb: ';', Arg: 'd'}}); got.Line.At != 4 {
		t.Error(got)
	}
	for _, key := range []string{";", ",", "d;", "c,", "y;"} {
		checkError(t, asked{l: l, c: cmd(t, key)}, api.ErrFail)
		checkError(t, asked{l: l, last: api.Find{Arg: '-'}, c: cmd(t, key)}, api.ErrFail)
		checkError(t, asked{l: l, last: api.Find{Key: 'f', Arg: 'q'}, c: cmd(t, key)}, api.ErrFail)
		checkError(t, asked{last: api.Find{Key: 'T', Arg: 'q'}, c: cmd(t, key)}, api.ErrFail)
	}
}

func TestOthers(t *testing.T) {
	ab := api.Regs{0: of("ab"), 1: of("x"), 26: of("zz")}
	for _, test := range []done{
		{"one", 0, "p", "oabne", 2, 0, "ab"},
		{"one", 0, "P", "abone", 1, 0, "ab"},
		{"one", 2, "p", "oneab", 4, 0, "ab"},
		{"one", 2, "3P", "onabababe", 7, 0, "ab"},
		{"one", 1, "2p", "onababe", 5, 0, "ab"},
		{"", 0, "p", "ab", 1, 0, "ab"},
		{"", 0, "P", "ab", 1, 0, "ab"},
		{"", 0, "2p", "abab", 3, 0, "ab"},
		{"one", 0, "\"ap", "oxne", 1, 0, "ab"},
		{"one", 0, "\"A3P", "xxxone", 2, 0, "ab"},
		{"one", 1, "\"zP", "ozzne", 2, 0, "ab"},
		{"oNe 1[", 0, "~", "ONe 1[", 1, 0, "ab"},
		{"oNe 1[", 0, "3~", "OnE 1[", 3, 0, "ab"},
		{"oNe 1[", 1, "99~", "onE 1[", 5, 0, "ab"},
		{"oNe", 2, "~", "oNE", 2, 0, "ab"},
		{"oNe", 1, "~", "one", 2, 0, "ab"},
		{"azAZ@[`{\u00e4", 0, "9~", "AZaz@[`{\u00e4", 8, 0, "ab"},
		{"oNe", 0, "rx", "xNe", 0, 0, "ab"},
		{"oNe", 1, "2rx", "oxx", 2, 0, "ab"},
		{"oNe", 0, "3r\u20ac", "\u20ac\u20ac\u20ac", 2, 0, "ab"},
		{"one", 1, "i", "one", 1, 1, "ab"},
		{"  one", 4, "I", "  one", 2, 1, "ab"},
		{"   ", 0, "I", "   ", 2, 1, "ab"},
		{"one", 1, "a", "one", 2, 1, "ab"},
		{"one", 2, "a", "one", 3, 1, "ab"},
		{"one", 0, "9a", "one", 1, 1, "ab"},
		{"one", 0, "A", "one", 3, 1, "ab"},
		{"one", 1, "R", "one", 1, 2, "ab"},
		{"", 0, "i", "", 0, 1, "ab"},
		{"", 0, "I", "", 0, 1, "ab"},
		{"", 0, "a", "", 0, 1, "ab"},
		{"", 0, "A", "", 0, 1, "ab"},
		{"", 0, "R", "", 0, 2, "ab"},
	} {
		checkDone(t, ab, api.Find{Key: 'T', Arg: 7}, test)
	}
	for _, test := range []struct {
		l    api.Line
		c    api.Cmd
		want api.Errno
	}{
		{line("", 0), api.Cmd{Verb: '~'}, api.ErrFail},
		{line("", 0), api.Cmd{Verb: 'r', Arg: 'x'}, api.ErrFail},
		{line("one", 0), api.Cmd{Verb: 'r', Arg: 'x', Count: 3}, api.OK},
		{line("one", 0), api.Cmd{Verb: 'r', Arg: 'x', Count: 4}, api.ErrFail},
		{line("one", 2), api.Cmd{Verb: 'r', Arg: 'x', Count: 2}, api.ErrFail},
		{line("one", 0), api.Cmd{Verb: 'p', Reg: 'b'}, api.ErrNone},
		{line("one", 0), api.Cmd{Verb: 'P', Reg: 'Y'}, api.ErrNone},
		{line("one", 0), api.Cmd{Verb: 'p', Reg: '1'}, api.ErrKey},
		{line("one", 0), api.Cmd{Verb: 'P', Reg: -1}, api.ErrKey},
		{line("one", 0), api.Cmd{Verb: 'p', Count: 98}, api.OK},
		{line("one", 0), api.Cmd{Verb: 'p', Count: 99}, api.ErrLarge},
		{line("one", 0), api.Cmd{Verb: 'p', Reg: 'a', Count: 197}, api.OK},
		{line("one", 0), api.Cmd{Verb: 'P', Reg: 'a', Count: 198}, api.ErrLarge},
		{line("one", 0), api.Cmd{Verb: 'p', Reg: 'b', Count: 999}, api.ErrNone},
		{line("one", 0), api.Cmd{Verb: 'u'}, api.ErrKey},
		{line("one", 0), api.Cmd{Verb: 'd'}, api.ErrKey},
		{line("one", 0), api.Cmd{Verb: 'c'}, api.ErrKey},
		{line("one", 0), api.Cmd{Verb: 'y'}, api.ErrKey},
		{line("one", 0), api.Cmd{Verb: '"', Arg: 'a'}, api.ErrKey},
		{line("one", 0), api.Cmd{Verb: 'j'}, api.ErrKey},
		{line("one", 0), api.Cmd{}, api.ErrKey},
		{line("", 0), api.Cmd{Verb: 'q'}, api.ErrKey},
	} {
		checkError(t, asked{l: test.l, r: ab, c: test.c}, test.want)
	}
}

func TestHowLongALineMayBe(t *testing.T) {
	for _, long := range []int{0, 1, 100, 198, 199, 200} {
		for _, there := range []int{1, 2, 3, 100, 200, 201, 5000} {
			for _, count := range []int{0, 1, 2, 3, 66, 67, 100, 199, 200, 201, 999} {
				for _, verb := range of("pP") {
					a := asked{l: api.Line{Text: numbers(1, long), At: long / 2}, r: api.Regs{5: numbers(-1, there)}, c: api.Cmd{Verb: verb, Reg: 'e', Count: count}}
					if long == 200 {
						checkError(t, a, api.ErrLarge)
					}
					check(t, a)
				}
			}
		}
	}
	full := api.Line{Text: numbers(50, 200), At: 199}
	for _, s := range []string{"x", "dd", "yy", "~", "200~", "rx", "a", "A", "0", "cc", "daw"} {
		checkError(t, asked{l: full, c: cmd(t, s)}, api.OK)
	}
}

// Of several errors the one that is told first.
func TestErrorsInTheirOrder(t *testing.T) {
	l := line("one", 1)
	for _, test := range []struct {
		a    asked
		want api.Errno
	}{
		{asked{l: l, c: api.Cmd{Verb: 'l', Count: 999}}, api.OK},
		{asked{l: l, c: api.Cmd{Verb: 'l', Count: 1000}}, api.ErrArg},
		{asked{l: l, c: api.Cmd{Verb: 'i', Count: -1}}, api.ErrArg},
		{asked{l: l, c: api.Cmd{Verb: 'q', Count: -1}}, api.ErrArg},
		{asked{l: l, c: api.Cmd{Op: 'q', Verb: 'q', Count: 1000}}, api.ErrArg},
		{asked{l: l, last: api.Find{Key: 'g'}, c: api.Cmd{Verb: 'i'}}, api.ErrArg},
		{asked{l: l, last: api.Find{Key: ';'}, c: api.Cmd{Op: 'q', Verb: 'q'}}, api.ErrArg},
		{asked{l: l, last: api.Find{Key: -1}, c: api.Cmd{Verb: 'd', Op: 'd'}}, api.ErrArg},
		{asked{l: l, c: api.Cmd{Op: 'q', Verb: 'q'}}, api.ErrKey},
		{asked{l: l, c: api.Cmd{Op: 'D', Verb: 'w'}}, api.ErrKey},
		{asked{l: l, c: api.Cmd{Op: 'x', Verb: ';'}}, api.ErrKey},
		{asked{l: l, c: api.Cmd{Op: 'd', Verb: ';', Reg: '1'}}, api.ErrFail},
		{asked{l: l, c: api.Cmd{Op: 'd', Verb: 'b', Reg: '1'}}, api.ErrKey},
	} {
		checkError(t, test.a, test.want)
	}
	for _, n := range append(odd, 0, 1, 2, 999) {
		for _, c := range []api.Cmd{{Verb: 'l'}, {Verb: 'i'}, {Op: 'd', Verb: 'd'}, {Verb: 'p'}, {Verb: 'x'}, {Verb: '~'}, {Verb: 'r'}, {Verb: ';'}, {Op: 'c', Verb: 'a', Arg: 'w'}, {Op: 'd', Verb: 'f', Arg: 'e'}} {
			for _, field := range []*int{&c.Count, &c.Reg, &c.Op, &c.Verb, &c.Arg} {
				was := *field
				*field = n
				check(t, asked{l: l, r: api.Regs{of("ab")}, last: api.Find{Key: 'f', Arg: 'e'}, c: c})
				check(t, asked{l: l, r: api.Regs{of("ab")}, last: api.Find{Key: n, Arg: 'e'}, c: c})
				check(t, asked{l: l, r: api.Regs{of("ab")}, last: api.Find{Key: 'F', Arg: n}, c: c})
				check(t, asked{l: api.Line{Text: of("one"), At: n}, c: c})
				*field = was
			}
		}
	}
}

// eachLine hands over all lines of up to most of the characters of set, with
// each place in them.
func eachLine(set []int, most int, yield func(api.Line)) {
	var grow func(l []int)
	grow = func(l []int) {
		for at := range max(1, len(l)) {
			yield(api.Line{Text: l, At: at})
		}
		if len(l) == most {
			return
		}
		for _, c := range set {
			grow(append(l[:len(l):len(l)], c))
		}
	}
	grow(nil)
}

// eachCommand hands over all that a line may be asked, with few Counts and Args.
func eachCommand(counts, args []int, yield func(api.Cmd)) {
	for _, count := range counts {
		for _, op := range of("\x00dcy") {
			all := verbsWithOp
			if op == 0 {
				all = verbs
			}
			for _, verb := range of(all) {
				if !has("fFtTria", verb) {
					yield(api.Cmd{Count: count, Op: op, Verb: verb})
					continue
				}
				for _, arg := range args {
					yield(api.Cmd{Count: count, Op: op, Verb: verb, Arg: arg})
				}
			}
		}
	}
}

func TestAllShortLines(t *testing.T) {
	r := api.Regs{0: of("pq"), 1: of("a"), 3: numbers(1, 198)}
	lasts := []api.Find{{}, {Key: 'f', Arg: 'a'}, {Key: 'F', Arg: ')'}, {Key: 't', Arg: ' '}, {Key: 'T', Arg: 'a'}}
	i := 0
	try := func(l api.Line, c api.Cmd) {
		c.Reg = of("\x00\x00aAbCz1")[i%8]
		check(t, asked{l: l, r: r, last: lasts[i%5], c: c})
		i++
	}
	eachLine(of("aB ()"), 3, func(l api.Line) {
		eachCommand([]int{0, 1, 2, 4, 999}, of("a w("), func(c api.Cmd) { try(l, c) })
	})
	eachLine(of("a'-"), 4, func(l api.Line) {
		eachCommand([]int{0, 2, 3}, of("a'W"), func(c api.Cmd) { try(l, c) })
	})
}

func TestEveryKeyAndName(t *testing.T) {
	r := api.Regs{0: of("pq"), 1: of("a"), 26: of("zzz")}
	for key := -3; key < 300; key++ {
		for _, op := range append(of("\x00dcyq"), key) {
			for _, arg := range of("x\x00w\"") {
				check(t, asked{l: line("xy (x)\"w\"", 4), r: r, last: api.Find{Key: 'f', Arg: 'x'}, c: api.Cmd{Op: op, Verb: key, Arg: arg, Count: 1}})
			}
		}
		for _, c := range []api.Cmd{{Verb: 'p'}, {Verb: 'P'}, {Verb: 'x'}, {Op: 'y', Verb: 'y'}, {Op: 'c', Verb: '0'}, {Verb: 'l'}, {Verb: 'i'}} {
			c.Reg = key
			check(t, asked{l: line("xy", 0), r: r, c: c})
		}
		for _, c := range []api.Cmd{{Verb: 'f'}, {Verb: 'r'}, {Op: 'd', Verb: 'i'}, {Op: 'y', Verb: 'a'}, {Op: 'd', Verb: 'T'}} {
			c.Arg = key
			check(t, asked{l: api.Line{Text: numbers(key-4, 9), At: 3}, r: r, c: c})
		}
		check(t, asked{l: api.Line{Text: numbers(key-4, 9), At: 3}, c: api.Cmd{Verb: '~', Count: 3}})
	}
}

const usual = "abcxyz ABCXYZ  ()[]{}\"'`-.;09_\t\u00e4\u20ac"

func randomText(rnd *rand.Rand, most int) []int {
	set := of(usual)
	var l []int
	for range rnd.Intn(most + 1) {
		l = append(l, set[rnd.Intn(len(set))])
	}
	return l
}

func randomCommand(rnd *rand.Rand) api.Cmd {
	set := of(usual)
	c := api.Cmd{Op: of("\x00\x00dcy")[rnd.Intn(5)], Arg: set[rnd.Intn(len(set))]}
	all := of(verbs)
	if c.Op != 0 {
		all = of(verbsWithOp)
	}
	c.Verb = all[rnd.Intn(len(all))]
	if has("ia", c.Verb) && rnd.Intn(5) > 0 {
		c.Arg = int(things[rnd.Intn(len(things))])
	}
	if rnd.Intn(2) > 0 {
		c.Count = rnd.Intn(1 << rnd.Intn(9))
	}
	if rnd.Intn(2) > 0 {
		c.Reg = int(letters[rnd.Intn(len(letters))])
	}
	return c
}

// One command is done behind the other; what is told is handed in again.
func TestManyCommands(t *testing.T) {
	rnd := rand.New(rand.NewSource(43))
	for range 1500 {
		l := api.Line{Text: randomText(rnd, 1<<rnd.Intn(9)%201)}
		l.At = rnd.Intn(max(1, len(l.Text)))
		var r api.Regs
		var last api.Find
		for range 60 {
			a := asked{l: l, r: r, last: last, c: randomCommand(rnd)}
			got := check(t, a)
			if _, err := edit.Do(l, r, last, a.c); err != api.OK {
				continue
			}
			l, r, last = got.Line, got.Regs, got.Find
			if got.Mode != api.Command {
				l = typeOn(t, rnd, l, got.Mode)
			}
		}
	}
}

// typeOn types a little, and leaves the line as Escape does.
func typeOn(t *testing.T, rnd *rand.Rand, l api.Line, mode int) api.Line {
	t.Helper()
	for range rnd.Intn(12) {
		key := of("ab-z 0\u00e4\x08\x7f\x15\x17\x1b")[rnd.Intn(12)]
		if now := checkKey(t, l, mode, key); !sameLine(now, api.Line{}) {
			l = now
		}
	}
	l.At = max(0, l.At-1)
	return l
}
