// Package arena is layer 1: see shared/doc/01-arena.md.
package arena

import (
	"kissgate/api"
	"sync/atomic"
)

// Arena is words that are changed one at a time.
type Arena struct {
	// The list is laid once, in full: it never moves, so a word stays where it is whatever is taken later.
	words []atomic.Int64
	taken int
	ops   int
	last  api.Op
}

// New is an arena with room for words.
func New(room int) *Arena {
	return &Arena{words: make([]atomic.Int64, min(max(room, 0), api.MaxWords))}
}

// Take takes words, and is the first one's number.
func (a *Arena) Take(n int) (int, api.Errno) {
	if n < 0 {
		return 0, api.ErrArg
	}
	if n > a.left() {
		return 0, api.ErrFull
	}
	first := a.Len() + 1
	if n > 0 { // an arena that is nil has no count to change
		a.taken += n
	}
	return first, api.OK
}

// Len is how many words were taken.
func (a *Arena) Len() int {
	if a == nil {
		return 0
	}
	return a.taken
}

// Load is a word.
func (a *Arena) Load(at int) int {
	if !a.has(at) {
		return 0
	}
	a.note(api.OpLoad, at, false)
	return int(a.words[at-1].Load())
}

// Store lays a word down.
func (a *Arena) Store(at, v int) {
	if !a.has(at) {
		return
	}
	a.note(api.OpStore, at, true)
	a.words[at-1].Store(int64(v))
}

// Swap lays a word down, and is the one that was there.
func (a *Arena) Swap(at, v int) int {
	if !a.has(at) {
		return 0
	}
	a.note(api.OpSwap, at, true)
	return int(a.words[at-1].Swap(int64(v)))
}

// Cas lays a word down, if another one is there.
func (a *Arena) Cas(at, old, v int) bool {
	if !a.has(at) {
		return false
	}
	done := a.words[at-1].CompareAndSwap(int64(old), int64(v))
	a.note(api.OpCas, at, done)
	return done
}

// Add adds to a word, and is what it is then.
func (a *Arena) Add(at, d int) int {
	if !a.has(at) {
		return 0
	}
	a.note(api.OpAdd, at, true)
	return int(a.words[at-1].Add(int64(d)))
}

// Ops is how many ops there were.
func (a *Arena) Ops() int {
	if a == nil {
		return 0
	}
	return a.ops
}

// Last is the last op.
func (a *Arena) Last() api.Op {
	if a == nil {
		return api.Op{}
	}
	return a.last
}

// Words are all words that were taken.
func (a *Arena) Words() []int {
	if a.Len() == 0 {
		return nil
	}
	out := make([]int, a.Len())
	for i := range out {
		out[i] = int(a.words[i].Load())
	}
	return out
}

// left is how many words may still be taken.
func (a *Arena) left() int {
	if a == nil {
		return 0
	}
	return len(a.words) - a.taken
}

// has tells whether a number is that of a word that was taken.
func (a *Arena) has(at int) bool {
	return at >= 1 && at <= a.Len()
}

// note counts an op, and keeps it as the last one.
func (a *Arena) note(kind, at int, wrote bool) {
	a.ops++
	a.last = api.Op{Kind: kind, At: at, Wrote: wrote}
}
