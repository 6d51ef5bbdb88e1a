package expand

import (
	"math/bits"

	"gristmill/api"
)

// walk goes through a word with a stack of its own: a call within a call for each of its Args could go too deep. enter is told each word, and its place among the Args around it, ahead of its own Args; leave is told it behind them. Of a word that lies within itself, and so has no end, endless is told, which doesn't come back.
type walk struct {
	enter   func(w *api.Word, at int)
	leave   func(w *api.Word)
	endless func(w *api.Word)
}

// step is a word that was entered, and how many of its Args were.
type step struct {
	word *api.Word
	gone int
}

func (k walk) through(w *api.Word) {
	path := k.into(nil, w, 0)
	for len(path) > 0 {
		last := &path[len(path)-1]
		if last.gone == len(last.word.Args) {
			k.leave(last.word)
			path = path[:len(path)-1]
			continue
		}
		last.gone++
		path = k.into(path, &last.word.Args[last.gone-1], last.gone-1)
	}
}

func (k walk) into(path []step, w *api.Word, at int) []step {
	if comesAgain(path, w) {
		k.endless(w)
	}
	k.enter(w, at)
	return append(path, step{word: w})
}

// comesAgain asks of one word of the path alone, the last one whose number is a power of two: a path without an end has the same words in it again and again, and comes to it.
func comesAgain(path []step, w *api.Word) bool {
	if len(path) == 0 {
		return false
	}
	power := 1 << (bits.Len(uint(len(path))) - 1)
	return path[power-1].word == w
}
