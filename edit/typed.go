package edit

import (
	"fairhand/api"
	"fairhand/word"
)

// Keys that do not stand for themselves where a line is typed.
const (
	backspace = 8
	rubout    = 127
	allAhead  = 21
	wordAhead = 23
)

// Key: P47.
func Key(l api.Line, mode, key int) (api.Line, api.Errno) {
	if err := checkTyping(l, mode); err != api.OK {
		return api.Line{}, err
	}
	switch {
	case key >= ' ' && key != rubout:
		return typed(l, mode, key)
	case !rubs(key):
		return api.Line{}, api.ErrKey
	case l.At == 0:
		return api.Line{}, api.ErrFail
	}
	return rubbed(l, mode, key), api.OK
}

// checkTyping: behind the last character is a place, too, where a line is typed.
func checkTyping(l api.Line, mode int) api.Errno {
	if len(l.Text) > api.MaxLine {
		return api.ErrLarge
	}
	if l.At < 0 || l.At > len(l.Text) || mode != api.Insert && mode != api.Over {
		return api.ErrArg
	}
	return api.OK
}

func rubs(key int) bool {
	switch key {
	case backspace, rubout, allAhead, wordAhead:
		return true
	}
	return false
}

func typed(l api.Line, mode, key int) (api.Line, api.Errno) {
	to := l.At
	if mode == api.Over {
		to = min(l.At+1, len(l.Text))
	}
	text := with(l.Text, l.At, to, []int{key})
	if len(text) > api.MaxLine {
		return api.Line{}, api.ErrFull
	}
	return api.Line{Text: text, At: l.At + 1}, api.OK
}

// rubbed is handed a line that has something ahead of At. Back tells no error
// here, as At is a place of the line.
func rubbed(l api.Line, mode, key int) api.Line {
	from := l.At - 1
	switch key {
	case allAhead:
		from = 0
	case wordAhead:
		from, _ = word.Back(l.Text, l.At, false)
	default:
		if mode == api.Over {
			return api.Line{Text: copied(l.Text), At: from}
		}
	}
	return api.Line{Text: with(l.Text, from, l.At, nil), At: from}
}
