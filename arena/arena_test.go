package arena

import (
	"kissgate/api"
	"slices"
	"testing"
)

// taken is an arena with room for words, n of which were taken.
func taken(t *testing.T, room, n int) *Arena {
	t.Helper()
	a := New(room)
	if first, e := a.Take(n); first != 1 || e != api.OK {
		t.Fatalf("Take(%d) of a new arena: %d, %v", n, first, e)
	}
	return a
}

// wantTake holds what Take tells against what it should.
func wantTake(t *testing.T, a *Arena, n, first int, err api.Errno) {
	t.Helper()
	if f, e := a.Take(n); f != first || e != err {
		t.Errorf("Take(%d): %d, %v; want %d, %v", n, f, e, first, err)
	}
}

// wantState holds an arena's words and ops against what they should be.
func wantState(t *testing.T, a *Arena, words []int, ops int, last api.Op) {
	t.Helper()
	if w := a.Words(); !slices.Equal(w, words) {
		t.Errorf("words %v; want %v", w, words)
	}
	if n := a.Len(); n != len(words) {
		t.Errorf("%d words; want %d", n, len(words))
	}
	if n, l := a.Ops(), a.Last(); n != ops || l != last {
		t.Errorf("%d ops, the last %v; want %d, %v", n, l, ops, last)
	}
}

// op is one op, by its kind; it tells the number it comes to, and whether it wrote, as far as the call tells them.
func op(a *Arena, kind, at, x, y int) (int, bool) {
	switch kind {
	case api.OpLoad:
		return a.Load(at), false
	case api.OpStore:
		a.Store(at, x)
		return 0, true
	case api.OpSwap:
		return a.Swap(at, x), true
	case api.OpCas:
		return 0, a.Cas(at, x, y)
	default:
		return a.Add(at, x), true
	}
}

// Ar1: the room is what was asked for, from none to MaxWords.
func TestRoom(t *testing.T) {
	rooms := []struct{ room, words int }{
		{api.MinInt, 0}, {-1, 0}, {0, 0}, {1, 1}, {7, 7},
		{api.MaxWords - 1, api.MaxWords - 1}, {api.MaxWords, api.MaxWords},
		{api.MaxWords + 1, api.MaxWords}, {api.MaxInt, api.MaxWords},
	}
	for _, r := range rooms {
		a := New(r.room)
		wantState(t, a, nil, 0, api.Op{})
		wantTake(t, a, r.words+1, 0, api.ErrFull)
		wantTake(t, a, r.words, 1, api.OK)
		wantTake(t, a, 1, 0, api.ErrFull)
		wantTake(t, a, 0, r.words+1, api.OK)
		wantState(t, a, make([]int, r.words), 0, api.Op{})
	}
}

// Ar1: words are taken one behind the other, and an error takes none.
func TestTake(t *testing.T) {
	a := New(10)
	wantTake(t, a, 0, 1, api.OK)
	wantTake(t, a, 3, 1, api.OK)
	wantTake(t, a, 0, 4, api.OK)
	wantTake(t, a, 1, 4, api.OK)
	wantTake(t, a, -1, 0, api.ErrArg)
	wantTake(t, a, api.MinInt, 0, api.ErrArg)
	wantTake(t, a, 7, 0, api.ErrFull)
	wantTake(t, a, api.MaxInt, 0, api.ErrFull)
	wantState(t, a, make([]int, 4), 0, api.Op{})
	wantTake(t, a, 6, 5, api.OK)
	wantTake(t, a, -1, 0, api.ErrArg)
	wantTake(t, a, 1, 0, api.ErrFull)
	wantTake(t, a, 0, 11, api.OK)
	wantState(t, a, make([]int, 10), 0, api.Op{})
}

// Ar1: what was laid down stays when more words are taken, and these are 0.
func TestTakeKeepsWords(t *testing.T) {
	a := taken(t, 5, 2)
	a.Store(1, 8)
	a.Store(2, 9)
	wantTake(t, a, 3, 3, api.OK)
	wantState(t, a, []int{8, 9, 0, 0, 0}, 2, api.Op{Kind: api.OpStore, At: 2, Wrote: true})
}

// Ar1: the words that are told are new memory.
func TestWordsAreNew(t *testing.T) {
	a := taken(t, 3, 2)
	a.Store(1, 4)
	w := a.Words()
	w[0], w[1] = 70, 71
	w = append(w, 72)
	if v := a.Words(); !slices.Equal(v, []int{4, 0}) || len(w) != 3 {
		t.Error(v, w)
	}
	a.Store(2, 5)
	if w[1] != 71 {
		t.Error("a list that was told changes with the arena", w)
	}
}

// Ar2: what each op tells, does, and is noted as.
func TestOps(t *testing.T) {
	steps := []struct {
		kind, at, x, y int
		tells          int
		wrote          bool
		words          []int
	}{
		{api.OpLoad, 1, 0, 0, 0, false, []int{0, 0, 0}},
		{api.OpStore, 1, 5, 0, 0, true, []int{5, 0, 0}},
		{api.OpStore, 1, 5, 0, 0, true, []int{5, 0, 0}},
		{api.OpLoad, 1, 0, 0, 5, false, []int{5, 0, 0}},
		{api.OpSwap, 1, -6, 0, 5, true, []int{-6, 0, 0}},
		{api.OpSwap, 1, -6, 0, -6, true, []int{-6, 0, 0}},
		{api.OpCas, 1, 6, 7, 0, false, []int{-6, 0, 0}},
		{api.OpCas, 1, -6, 7, 0, true, []int{7, 0, 0}},
		{api.OpCas, 1, 7, 7, 0, true, []int{7, 0, 0}},
		{api.OpCas, 3, 0, 2, 0, true, []int{7, 0, 2}},
		{api.OpAdd, 3, 3, 0, 5, true, []int{7, 0, 5}},
		{api.OpAdd, 3, 0, 0, 5, true, []int{7, 0, 5}},
		{api.OpAdd, 3, -9, 0, -4, true, []int{7, 0, -4}},
		{api.OpLoad, 2, 0, 0, 0, false, []int{7, 0, -4}},
	}
	a := taken(t, 3, 3)
	for i, s := range steps {
		v, wrote := op(a, s.kind, s.at, s.x, s.y)
		if v != s.tells || wrote != s.wrote {
			t.Errorf("step %d: %d, %v; want %d, %v", i, v, wrote, s.tells, s.wrote)
		}
		wantState(t, a, s.words, i+1, api.Op{Kind: s.kind, At: s.at, Wrote: s.wrote})
	}
}

// Ar2: the example of the chapter.
func TestExample(t *testing.T) {
	a := taken(t, 1, 1)
	if a.Add(1, 2) != 2 || !a.Cas(1, 2, 7) || a.Ops() != 2 || a.Words()[0] != 7 {
		t.Error(a.Words(), a.Ops())
	}
}

// Ar2: words are whole ints, and sums go round beyond their ends.
func TestEnds(t *testing.T) {
	a := taken(t, 2, 2)
	for _, v := range []int{api.MaxInt, api.MinInt, -1, 1 << 32, 1 << 62} {
		a.Store(1, v)
		if w := a.Load(1); w != v {
			t.Errorf("%d was laid down, %d is there", v, w)
		}
		if !a.Cas(1, v, ^v) || a.Swap(1, 0) != ^v {
			t.Errorf("%d: not the word that is there", v)
		}
	}
	sums := []struct{ word, d, sum int }{
		{api.MaxInt, 1, api.MinInt}, {api.MinInt, -1, api.MaxInt},
		{api.MaxInt, api.MaxInt, -2}, {api.MinInt, api.MinInt, 0},
		{api.MaxInt, api.MinInt, -1}, {1, api.MaxInt, api.MinInt},
	}
	for _, s := range sums {
		a.Store(2, s.word)
		if v := a.Add(2, s.d); v != s.sum || a.Load(2) != s.sum {
			t.Errorf("%d and %d: %d; want %d", s.word, s.d, v, s.sum)
		}
	}
}

// Ar2: what is done at the number of no word is no op, does nothing, and tells 0 or false.
func TestNoWord(t *testing.T) {
	a := taken(t, 5, 3)
	for i := range 3 {
		a.Store(i+1, 10+i)
	}
	last := a.Last()
	for _, at := range []int{0, -1, 4, 5, 6, api.MaxWords, api.MaxWords + 1, api.MaxInt, api.MinInt} {
		a.Store(at, 1)
		if v := a.Load(at); v != 0 {
			t.Errorf("Load(%d): %d", at, v)
		}
		if v := a.Swap(at, 2); v != 0 {
			t.Errorf("Swap(%d): %d", at, v)
		}
		if a.Cas(at, 0, 3) || a.Cas(at, 10, 3) {
			t.Errorf("Cas(%d): true", at)
		}
		if v := a.Add(at, 4); v != 0 {
			t.Errorf("Add(%d): %d", at, v)
		}
		wantState(t, a, []int{10, 11, 12}, 3, last)
	}
	wantTake(t, a, 2, 4, api.OK)
	wantState(t, a, []int{10, 11, 12, 0, 0}, 3, last)
	a.Store(4, 6)
	wantState(t, a, []int{10, 11, 12, 6, 0}, 4, api.Op{Kind: api.OpStore, At: 4, Wrote: true})
}

// Ar2: what only looks is no op.
func TestLooksAreNoOps(t *testing.T) {
	a := taken(t, 4, 2)
	a.Add(2, 3)
	for range 3 {
		a.Len()
		a.Words()
		a.Ops()
		a.Last()
		a.Take(0)
		a.Take(-1)
		a.Take(9)
	}
	wantState(t, a, []int{0, 3}, 1, api.Op{Kind: api.OpAdd, At: 2, Wrote: true})
}

// Ar3: of nil, and of a zero one: there is no room, and no word.
func TestNilAndZero(t *testing.T) {
	for name, a := range map[string]*Arena{"nil": nil, "zero": new(Arena), "no room": New(0), "less": New(-3)} {
		t.Run(name, func(t *testing.T) {
			wantTake(t, a, -1, 0, api.ErrArg)
			wantTake(t, a, 1, 0, api.ErrFull)
			wantTake(t, a, api.MaxInt, 0, api.ErrFull)
			wantTake(t, a, 0, 1, api.OK)
			for _, at := range []int{-1, 0, 1, 2, api.MaxInt, api.MinInt} {
				for kind := api.OpLoad; kind <= api.OpAdd; kind++ {
					if v, wrote := op(a, kind, at, 0, 1); v != 0 || kind == api.OpCas && wrote {
						t.Errorf("op %d at %d: %d, %v", kind, at, v, wrote)
					}
				}
			}
			wantState(t, a, nil, 0, api.Op{})
		})
	}
}

// Ar4: an op changes no word but its own, at the edges of an arena too.
func TestOnlyItsOwn(t *testing.T) {
	for _, n := range []int{1, 2, 5, api.MaxWords} {
		a := taken(t, n, n)
		want := make([]int, n)
		for i := range want {
			want[i] = 1000 + i
			a.Store(i+1, want[i])
		}
		for _, at := range []int{1, (n + 1) / 2, n} {
			for kind := api.OpLoad; kind <= api.OpAdd; kind++ {
				op(a, kind, at, want[at-1], -kind)
				got := a.Words()
				want[at-1] = got[at-1]
				if !slices.Equal(got, want) {
					t.Errorf("%d words: op %d at %d changed another word", n, kind, at)
				}
			}
		}
	}
}

// Ar4, R4: an arena has words of its own, and the same calls come to the same.
func TestArenasAreApart(t *testing.T) {
	a, b, c := taken(t, 3, 3), taken(t, 3, 3), taken(t, 3, 3)
	for i := range 3 {
		a.Add(i+1, i+5)
		c.Add(i+1, i+5)
	}
	wantState(t, b, []int{0, 0, 0}, 0, api.Op{})
	wantState(t, a, []int{5, 6, 7}, 3, api.Op{Kind: api.OpAdd, At: 3, Wrote: true})
	wantState(t, c, a.Words(), a.Ops(), a.Last())
}

// model is an arena told in the plainest way.
type model struct {
	words []int
	ops   int
	last  api.Op
}

// do is an op of the model.
func (m *model) do(kind, at, x, y int) (int, bool) {
	if at < 1 || at > len(m.words) {
		return 0, kind != api.OpLoad && kind != api.OpCas
	}
	w, was := &m.words[at-1], m.words[at-1]
	tells, wrote := 0, kind != api.OpLoad
	switch kind {
	case api.OpLoad:
		tells = was
	case api.OpStore:
		*w = x
	case api.OpSwap:
		tells, *w = was, x
	case api.OpCas:
		if wrote = was == x; wrote {
			*w = y
		}
	case api.OpAdd:
		*w += x
		tells = *w
	}
	m.ops++
	m.last = api.Op{Kind: kind, At: at, Wrote: wrote}
	return tells, wrote
}

// numbers tells numbers below a bound, which go on by a rule from where they begin.
func numbers(from uint64) func(below int) int {
	return func(below int) int {
		from = from*6364136223846793005 + 1442695040888963407
		return int(from>>33) % below
	}
}

// Ar1 to Ar4: long rows of calls come to what the model's come to.
func TestModel(t *testing.T) {
	values := []int{0, 1, 2, -1, api.MaxInt, api.MinInt}
	for from := range uint64(50) {
		next := numbers(from)
		room := next(6)
		a, m := New(room), &model{}
		for range 300 {
			if next(20) == 0 {
				n := next(5) - 1
				switch left := room - len(m.words); {
				case n < 0:
					wantTake(t, a, n, 0, api.ErrArg)
				case n > left:
					wantTake(t, a, n, 0, api.ErrFull)
				default:
					wantTake(t, a, n, len(m.words)+1, api.OK)
					m.words = append(m.words, make([]int, n)...)
				}
			}
			kind, at := 1+next(5), next(8)-1
			x, y := values[next(len(values))], values[next(len(values))]
			v, wrote := op(a, kind, at, x, y)
			if mv, mw := m.do(kind, at, x, y); v != mv || wrote != mw {
				t.Fatalf("from %d: op %d at %d: %d, %v; want %d, %v", from, kind, at, v, wrote, mv, mw)
			}
			wantState(t, a, m.words, m.ops, m.last)
		}
	}
}
