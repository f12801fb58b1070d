package edit_test

import (
	"math"
	"math/rand"
	"reflect"
	"slices"
	"testing"

	"fairhand/api"
	"fairhand/edit"
	"fairhand/word"
)

// wantKey has what stands ahead of At and behind it apart.
func wantKey(l api.Line, mode, key int) (api.Line, api.Errno) {
	switch {
	case len(l.Text) > 200:
		return api.Line{}, api.ErrLarge
	case l.At < 0, l.At > len(l.Text), mode != 1 && mode != 2:
		return api.Line{}, api.ErrArg
	}
	ahead, behind := slices.Clone(l.Text[:l.At]), slices.Clone(l.Text[l.At:])
	if key > 31 && key != 127 {
		if mode == 2 && len(behind) > 0 {
			behind = behind[1:]
		}
		if len(ahead)+len(behind) == 200 {
			return api.Line{}, api.ErrFull
		}
		return api.Line{Text: slices.Concat(ahead, []int{key}, behind), At: l.At + 1}, api.OK
	}
	if key != 8 && key != 127 && key != 21 && key != 23 {
		return api.Line{}, api.ErrKey
	}
	if len(ahead) == 0 {
		return api.Line{}, api.ErrFail
	}
	if mode == 2 && (key == 8 || key == 127) {
		return api.Line{Text: l.Text, At: l.At - 1}, api.OK
	}
	left := len(ahead) - 1
	if key == 21 {
		left = 0
	}
	if key == 23 {
		left, _ = word.Back(l.Text, l.At, false)
	}
	return api.Line{Text: append(ahead[:left], behind...), At: left}, api.OK
}

func checkKey(t *testing.T, l api.Line, mode, key int) api.Line {
	t.Helper()
	want, wantErr := wantKey(l, mode, key)
	got, err := edit.Key(l, mode, key)
	if !sameLine(got, want) || err != wantErr || err != api.OK && !reflect.DeepEqual(got, api.Line{}) {
		t.Fatalf("Key(%q %d, %d, %d): %q %d %v, not %q %d %v", textOf(l.Text), l.At, mode, key, textOf(got.Text), got.At, err, textOf(want.Text), want.At, wantErr)
	}
	return got
}

func TestKey(t *testing.T) {
	for _, test := range []struct {
		text      string
		at        int
		mode, key int
		want      string
		now       int
		err       api.Errno
	}{
		{"", 0, 1, 'a', "a", 1, api.OK},
		{"", 0, 2, 'a', "a", 1, api.OK},
		{"one", 0, 1, 'a', "aone", 1, api.OK},
		{"one", 0, 2, 'a', "ane", 1, api.OK},
		{"one", 2, 1, 'a', "onae", 3, api.OK},
		{"one", 2, 2, 'a', "ona", 3, api.OK},
		{"one", 3, 1, 'a', "onea", 4, api.OK},
		{"one", 3, 2, 'a', "onea", 4, api.OK},
		{"one", 1, 1, ' ', "o ne", 2, api.OK},
		{"one", 1, 1, '~', "o~ne", 2, api.OK},
		{"one", 1, 2, 128, "o\u0080e", 2, api.OK},
		{"one", 1, 1, 0x20ac, "o\u20acne", 2, api.OK},
		{"one", 1, 1, 31, "", 0, api.ErrKey},
		{"one", 1, 2, 27, "", 0, api.ErrKey},
		{"one", 1, 1, 0, "", 0, api.ErrKey},
		{"one", 1, 1, -1, "", 0, api.ErrKey},
		{"one", 0, 1, 9, "", 0, api.ErrKey},
		{"one", 1, 2, 13, "", 0, api.ErrKey},
		{"one", 2, 1, 8, "oe", 1, api.OK},
		{"one", 2, 1, 127, "oe", 1, api.OK},
		{"one", 2, 2, 8, "one", 1, api.OK},
		{"one", 2, 2, 127, "one", 1, api.OK},
		{"one", 3, 1, 8, "on", 2, api.OK},
		{"one", 3, 2, 127, "one", 2, api.OK},
		{"one", 2, 1, 21, "e", 0, api.OK},
		{"one", 2, 2, 21, "e", 0, api.OK},
		{"one", 3, 1, 21, "", 0, api.OK},
		{"one two", 7, 1, 23, "one ", 4, api.OK},
		{"one two", 6, 2, 23, "one o", 4, api.OK},
		{"one two", 4, 1, 23, "two", 0, api.OK},
		{"a-b", 3, 1, 23, "a-", 2, api.OK},
		{"  a", 2, 1, 23, "a", 0, api.OK},
		{"one", 0, 1, 8, "", 0, api.ErrFail},
		{"one", 0, 1, 127, "", 0, api.ErrFail},
		{"one", 0, 2, 21, "", 0, api.ErrFail},
		{"one", 0, 2, 23, "", 0, api.ErrFail},
		{"", 0, 1, 23, "", 0, api.ErrFail},
		{"one", 4, 1, 'a', "", 0, api.ErrArg},
		{"one", -1, 1, 'a', "", 0, api.ErrArg},
		{"one", 1, 0, 'a', "", 0, api.ErrArg},
		{"one", 1, 3, 'a', "", 0, api.ErrArg},
		{"one", 1, -1, 'a', "", 0, api.ErrArg},
		{"one", 1, 0, 27, "", 0, api.ErrArg},
		{"one", 0, 3, 8, "", 0, api.ErrArg},
	} {
		l := line(test.text, test.at)
		got, err := edit.Key(l, test.mode, test.key)
		if !sameLine(got, line(test.want, test.now)) || err != test.err {
			t.Errorf("Key(%q %d, %d, %d): %q %d %v", test.text, test.at, test.mode, test.key, textOf(got.Text), got.At, err)
		}
		checkKey(t, l, test.mode, test.key)
	}
}

func TestEveryKeyThatIsTyped(t *testing.T) {
	eachLine(of("a -"), 4, func(l api.Line) {
		for _, mode := range []int{0, 1, 2, 3} {
			for _, key := range []int{'x', ' ', 127, 8, 21, 23, 27, 31, 128, -8} {
				checkKey(t, l, mode, key)
				if l.At == len(l.Text)-1 {
					checkKey(t, api.Line{Text: l.Text, At: len(l.Text)}, mode, key)
				}
			}
		}
	})
	for key := -300; key < 600; key++ {
		for at := -1; at < 6; at++ {
			checkKey(t, line("ab c", at), 1, key)
			checkKey(t, line("ab c", at), 2, key)
			checkKey(t, line("", at), 1, key)
		}
	}
	for _, n := range odd {
		checkKey(t, line("ab c", 2), 1, n)
		checkKey(t, line("ab c", 2), 2, n)
		checkKey(t, line("ab c", n), 1, 'x')
		checkKey(t, line("ab c", 2), n, 'x')
	}
}

func TestHowMuchIsTyped(t *testing.T) {
	for _, long := range []int{198, 199, 200, 201, 4096, 5000} {
		for _, at := range []int{math.MinInt, -1, 0, 1, 100, 198, 199, 200, 201, 202, math.MaxInt} {
			for _, mode := range []int{0, 1, 2, 3} {
				for _, key := range []int{'x', 8, 127, 21, 23, 27} {
					checkKey(t, api.Line{Text: numbers('a', long), At: at}, mode, key)
				}
			}
		}
	}
	for _, mode := range []int{1, 2} {
		l := api.Line{}
		for key := range 200 {
			l = checkKey(t, l, mode, 200+key)
		}
		if !slices.Equal(l.Text, numbers(200, 200)) || l.At != 200 {
			t.Error(l)
		}
		if _, err := edit.Key(l, mode, 'x'); err != api.ErrFull {
			t.Error(err)
		}
		l.At = 199
		if _, err := edit.Key(l, mode, 'x'); err == api.ErrFull != (mode == 1) {
			t.Error(mode, err)
		}
	}
}

func TestManyKeys(t *testing.T) {
	rnd := rand.New(rand.NewSource(47))
	for range 3000 {
		l := api.Line{Text: randomText(rnd, 1<<rnd.Intn(9)%201)}
		l.At = rnd.Intn(len(l.Text) + 1)
		for range 40 {
			key := of("ab-zX 0\u00e4\x08\x7f\x15\x17\x1b")[rnd.Intn(13)]
			mode := 1 + rnd.Intn(2)
			now, err := edit.Key(l, mode, key)
			checkKey(t, l, mode, key)
			if err == api.OK {
				l = now
			}
		}
	}
}
