package tas

import (
	"kissgate/api"
	"kissgate/arena"
	"slices"
	"testing"
	"time"
)

// plain is the lock in the chapter's words: what a slot is at stands in a map, at rest if it does not.
type plain struct {
	slots, most, word, ops int
	pc, a, b               map[int]int
}

func newPlain(slots, most int) *plain {
	return &plain{slots: slots, most: most, pc: map[int]int{}, a: map[int]int{}, b: map[int]int{}}
}

func (p *plain) has(i int) bool { return 0 <= i && i <= p.slots-1 }

func (p *plain) ask(i int) bool {
	if p.has(i) && p.pc[i] == 0 {
		p.pc[i], p.a[i] = 1, 1
		return true
	}
	return false
}

func (p *plain) leave(i int) bool {
	if p.has(i) && p.pc[i] == 10 {
		p.pc[i] = 11
		return true
	}
	return false
}

func (p *plain) step(i int) bool {
	if !p.has(i) || p.pc[i] == 0 || p.pc[i] == 10 {
		return false
	}
	switch p.pc[i] {
	case 1:
		p.ops++
		if p.word == 0 {
			p.word, p.pc[i] = i+1, 10
			break
		}
		p.b[i] = p.a[i]
		p.a[i] = 2 * p.a[i]
		if p.a[i] > p.most {
			p.a[i] = p.most
		}
		p.pc[i] = 2
	case 2:
		p.b[i] = p.b[i] - 1
		if p.b[i] == 0 {
			p.pc[i] = 1
		} else {
			p.pc[i] = 2
		}
	case 11:
		p.ops++
		p.word, p.pc[i] = 0, 0
	}
	return p.pc[i] == 10 || p.pc[i] == 0
}

func (p *plain) spot(i int) api.Spot {
	return api.Spot{Pc: p.pc[i], A: p.a[i], B: p.b[i]}
}

// strange are numbers of all sorts.
var strange = []int{-1, -2, 32, 33, 64, 1023, 1024, 1025, 2048, 1 << 16, 1 << 32, 1<<32 + 1, -1 << 32, api.MaxInt, api.MaxInt - 1, api.MinInt, api.MinInt + 1}

// What is done with a slot.
const (
	doAsk = iota
	doLeave
	doStep
	dos
)

// do does one thing with a slot of either.
func do(what, i int, l *Lock, p *plain) (bool, bool) {
	switch what {
	case doAsk:
		return l.Ask(i), p.ask(i)
	case doLeave:
		return l.Leave(i), p.leave(i)
	default:
		return l.Step(i), p.step(i)
	}
}

// made is a lock in an arena of its own, that has room for its word alone.
func made(t *testing.T, slots, most int) (*Lock, *arena.Arena) {
	t.Helper()
	a := arena.New(1)
	l, err := New(a, slots, most)
	if l == nil || err != api.OK {
		t.Fatalf("New(%d, %d): %v, %v", slots, most, l, err)
	}
	return l, a
}

// wantSpot holds a slot's spot against what it should be.
func wantSpot(t *testing.T, l *Lock, i int, want api.Spot) {
	t.Helper()
	if s := l.Spot(i); s != want {
		t.Errorf("Spot(%d): %v; want %v", i, s, want)
	}
}

// wantDo holds what a call tells against what it should.
func wantDo(t *testing.T, name string, got, want bool) {
	t.Helper()
	if got != want {
		t.Errorf("%s: %v; want %v", name, got, want)
	}
}

// wantSame holds all that is seen of a lock against the chapter's words.
func wantSame(t *testing.T, l *Lock, a *arena.Arena, p *plain, what any) {
	t.Helper()
	if w := a.Words(); l.Slots() != p.slots || !slices.Equal(w, []int{p.word}) {
		t.Fatalf("%v: %d slots, words %v; want %d, %d", what, l.Slots(), w, p.slots, p.word)
	}
	for i := range p.slots {
		if l.Spot(i) != p.spot(i) {
			t.Fatalf("%v: slot %d: %v; want %v", what, i, l.Spot(i), p.spot(i))
		}
	}
}

// play does things, told by numbers, with a lock and with the chapter's words, and holds them against each other.
func play(t *testing.T, slots, most int, things []int) {
	t.Helper()
	l, a := made(t, slots, most)
	p := newPlain(slots, most)
	for n, x := range things {
		what, i := x%dos, x/dos
		ops, was, word := a.Ops(), p.ops, p.word
		got, want := do(what, i, l, p)
		if got != want || a.Ops()-ops != p.ops-was {
			t.Fatalf("%v at %d: %v, %d ops; want %v, %d", things, n, got, a.Ops()-ops, want, p.ops-was)
		}
		wantOp(t, a, p, p.ops-was, word)
		wantSame(t, l, a, p, things[:n+1])
	}
}

// wantOp holds the last op against the chapter's words: a Store writes always, a Cas if the word was 0.
func wantOp(t *testing.T, a *arena.Arena, p *plain, ops, word int) {
	t.Helper()
	if ops == 0 {
		return
	}
	want := api.Op{Kind: api.OpCas, At: 1, Wrote: word == 0}
	if p.word == 0 {
		want = api.Op{Kind: api.OpStore, At: 1, Wrote: true}
	}
	if a.Last() != want {
		t.Fatalf("op %v; want %v", a.Last(), want)
	}
}

// lcg draws numbers, the same ones each time.
func lcg(seed uint64) func(n int) int {
	return func(n int) int {
		seed = seed*6364136223846793005 + 1442695040888963407
		return int(seed>>33) % n
	}
}

// Ts2: the chapter's example: two slots that ask, and step.
func TestExample(t *testing.T) {
	l, a := made(t, 2, 8)
	wantDo(t, "Ask(0)", l.Ask(0), true)
	wantDo(t, "Ask(1)", l.Ask(1), true)
	wantDo(t, "Step(0)", l.Step(0), true)
	wantDo(t, "Step(1)", l.Step(1), false)
	wantSpot(t, l, 0, api.Spot{Pc: api.AtHold, A: 1})
	wantSpot(t, l, 1, api.Spot{Pc: 2, A: 2, B: 1})
	wantDo(t, "Step(1)", l.Step(1), false)
	wantSpot(t, l, 1, api.Spot{Pc: 1, A: 2})
	if w := a.Words(); a.Ops() != 2 || !slices.Equal(w, []int{1}) {
		t.Error(a.Ops(), w)
	}
}

// Ts1: which slots, and which most, may be; what may not is ErrArg ahead of ErrFull, and takes nothing.
func TestNewArguments(t *testing.T) {
	slots := append([]int{0, 1, 2, 3, 31}, strange...)
	most := append([]int{0, 1, 2, 3, 512}, strange...)
	for _, s := range slots {
		for _, m := range most {
			may := s >= 1 && s <= 32 && m >= 1 && m <= 1024
			a := arena.New(3)
			l, err := New(a, s, m)
			switch {
			case !may && (l != nil || err != api.ErrArg || a.Len() != 0):
				t.Errorf("New(%d, %d): %v, %v, %d words", s, m, l, err, a.Len())
			case may && (l == nil || err != api.OK || a.Len() != 1 || l.Slots() != s):
				t.Errorf("New(%d, %d): %v, %v, %d words, %d slots", s, m, l, err, a.Len(), l.Slots())
			}
			full, want := arena.New(0), api.ErrFull
			if !may {
				want = api.ErrArg
			}
			if l, err := New(full, s, m); l != nil || err != want {
				t.Errorf("New(%d, %d) without room: %v, %v; want %v", s, m, l, err, want)
			}
		}
	}
}

// Ts1: without room there is no lock, and nothing is taken; an arena that is nil, or zero, has none.
func TestNewFull(t *testing.T) {
	full := arena.New(2)
	full.Take(2)
	for i, a := range []*arena.Arena{nil, {}, arena.New(0), arena.New(-1), full} {
		n := a.Len()
		if l, err := New(a, 1, 1); l != nil || err != api.ErrFull || a.Len() != n || a.Ops() != 0 {
			t.Errorf("arena %d: %v, %v", i, l, err)
		}
	}
	a := arena.New(2)
	for i := range 3 {
		l, err := New(a, 2, 2)
		if i < 2 && (l == nil || err != api.OK) || i == 2 && (l != nil || err != api.ErrFull) {
			t.Errorf("lock %d: %v, %v", i, l, err)
		}
	}
}

// Ts1: a new lock's slots are all at rest, and no op was done; each of the slots that there may be comes in, and lays its number and 1 down.
func TestNewAtRest(t *testing.T) {
	for slots := 1; slots <= api.MaxThreads; slots++ {
		l, a := made(t, slots, 1024)
		if a.Ops() != 0 || !slices.Equal(a.Words(), []int{0}) || l.Slots() != slots {
			t.Error(slots, a.Ops(), a.Words(), l.Slots())
		}
		for i := range slots {
			wantSpot(t, l, i, api.Spot{})
			wantDo(t, "Step at rest", l.Step(i), false)
			wantDo(t, "Leave at rest", l.Leave(i), false)
			wantDo(t, "Ask", l.Ask(i), true)
			wantDo(t, "Step", l.Step(i), true)
			wantSpot(t, l, i, api.Spot{Pc: 10, A: 1})
			if w := a.Words(); !slices.Equal(w, []int{i + 1}) {
				t.Error(slots, i, w)
			}
			wantDo(t, "Leave", l.Leave(i), true)
			wantDo(t, "Step", l.Step(i), true)
			wantSpot(t, l, i, api.Spot{A: 1})
		}
	}
}

// Ts1, R7: a lock's word is the next one that is taken, and it touches no other; locks of one arena are each their own.
func TestWord(t *testing.T) {
	a := arena.New(9)
	a.Take(3)
	first, _ := New(a, 2, 4)
	a.Take(2)
	second, _ := New(a, 2, 4)
	for i := 1; i <= 7; i++ {
		if i != 4 && i != 7 {
			a.Store(i, 100+i)
		}
	}
	first.Ask(1)
	second.Ask(0)
	wantDo(t, "first", first.Step(1), true)
	wantDo(t, "second", second.Step(0), true)
	if w := a.Words(); !slices.Equal(w, []int{101, 102, 103, 2, 105, 106, 1}) {
		t.Error(w)
	}
	first.Leave(1)
	wantDo(t, "first", first.Step(1), true)
	if w := a.Words(); !slices.Equal(w, []int{101, 102, 103, 0, 105, 106, 1}) {
		t.Error(w)
	}
	wantSpot(t, first, 0, api.Spot{})
	wantSpot(t, second, 1, api.Spot{})
}

// Ts2: waits become twice as long each time, up to the lock's most, and begin anew when a slot asks anew.
func TestWaits(t *testing.T) {
	for _, most := range []int{1, 2, 3, 5, 8, 1000, 1023, 1024} {
		l, a := made(t, 2, most)
		l.Ask(0)
		l.Step(0)
		l.Ask(1)
		wait := 1
		for range 14 {
			ops := a.Ops()
			wantDo(t, "Step", l.Step(1), false)
			next := min(2*wait, most)
			wantSpot(t, l, 1, api.Spot{Pc: 2, A: next, B: wait})
			for left := wait - 1; left >= 0; left-- {
				wantDo(t, "Step", l.Step(1), false)
				pc := 2
				if left == 0 {
					pc = 1
				}
				wantSpot(t, l, 1, api.Spot{Pc: pc, A: next, B: left})
			}
			if a.Ops() != ops+1 || a.Last() != (api.Op{Kind: api.OpCas, At: 1}) {
				t.Fatal(most, wait, a.Ops()-ops, a.Last())
			}
			wait = next
		}
		l.Leave(0)
		l.Step(0)
		wantDo(t, "Step", l.Step(1), true)
		wantSpot(t, l, 1, api.Spot{Pc: 10, A: wait})
		l.Leave(1)
		wantSpot(t, l, 1, api.Spot{Pc: 11, A: wait})
		wantDo(t, "Step", l.Step(1), true)
		wantSpot(t, l, 1, api.Spot{A: wait})
		wantDo(t, "Ask", l.Ask(1), true)
		wantSpot(t, l, 1, api.Spot{Pc: 1, A: 1})
	}
}

// Ts2: what may not be is false, and nothing changes: at each spot that a slot may be at.
func TestRefused(t *testing.T) {
	l, a := made(t, 2, 4)
	refuse := func(i int, ask, leave, step bool) {
		t.Helper()
		spot, ops := l.Spot(i), a.Ops()
		if ask && l.Ask(i) || leave && l.Leave(i) || step && l.Step(i) || l.Spot(i) != spot || a.Ops() != ops {
			t.Error(i, spot, l.Spot(i), a.Ops()-ops)
		}
	}
	refuse(0, false, true, true)
	l.Ask(0)
	refuse(0, true, true, false)
	l.Step(0)
	refuse(0, true, false, true)
	l.Ask(1)
	l.Step(1)
	refuse(1, true, true, false)
	l.Leave(0)
	refuse(0, true, true, false)
	l.Step(0)
	refuse(0, false, true, true)
}

// Ts2: of slots that there are not nothing comes, and nothing changes.
func TestStrange(t *testing.T) {
	for _, slots := range []int{1, 3, 32} {
		l, a := made(t, slots, 4)
		l.Ask(0)
		l.Step(0)
		for _, i := range append([]int{slots, slots + 1}, strange...) {
			if i >= 0 && i < slots {
				continue
			}
			if l.Ask(i) || l.Step(i) || l.Leave(i) || l.Spot(i) != (api.Spot{}) {
				t.Error(slots, i)
			}
		}
		if a.Ops() != 1 || l.Spot(0) != (api.Spot{Pc: 10, A: 1}) || l.Slots() != slots {
			t.Error(slots, a.Ops(), l.Spot(0))
		}
	}
}

// Ts2: of nil, and of a zero one, there are no slots.
func TestNone(t *testing.T) {
	for _, l := range []*Lock{nil, {}} {
		for _, i := range append([]int{0, 1}, strange...) {
			if l.Slots() != 0 || l.Ask(i) || l.Leave(i) || l.Step(i) || l.Spot(i) != (api.Spot{}) {
				t.Error(l, i)
			}
		}
	}
}

// Ts2: all that can be done with two slots, up to a length, comes to what the chapter says.
func TestShort(t *testing.T) {
	for _, most := range []int{1, 2} {
		things := make([]int, 7)
		for {
			play(t, 2, most, things)
			at := 0
			for at < len(things) && things[at] == 2*dos-1 {
				things[at] = 0
				at++
			}
			if at == len(things) {
				break
			}
			things[at]++
		}
	}
}

// Ts2: long scripts of many slots come to what the chapter says.
func TestLonger(t *testing.T) {
	draw := lcg(15)
	for range 300 {
		slots, most := 1+draw(6), 1+draw(20)
		if draw(10) == 0 {
			slots, most = 32, 1024
		}
		things := make([]int, 400)
		for n := range things {
			what := draw(dos + 4)
			things[n] = draw(slots+1)*dos + min(what, doStep)
		}
		play(t, slots, most, things)
	}
}

// Ts3: no two slots hold at once; a step is one op at most; when the word is 0 the next slot that tries it holds it.
func TestWhatFollows(t *testing.T) {
	draw := lcg(3)
	for range 200 {
		slots := 1 + draw(8)
		l, a := made(t, slots, 1+draw(16))
		for range 600 {
			i := draw(slots)
			switch {
			case l.Spot(i).Pc == api.AtRest && draw(2) == 0:
				wantDo(t, "Ask", l.Ask(i), true)
			case l.Spot(i).Pc == api.AtHold && draw(3) == 0:
				wantDo(t, "Leave", l.Leave(i), true)
			default:
				tries, free, ops := l.Spot(i).Pc == 1, a.Words()[0] == 0, a.Ops()
				held := l.Step(i)
				if a.Ops() > ops+1 {
					t.Fatal("a step of more ops than one")
				}
				if tries && held != free {
					t.Fatalf("the word is free: %v; it holds: %v", free, held)
				}
			}
			wantAlone(t, l, a)
		}
	}
}

// wantAlone tells whether at most one slot has the word, and the word its number.
func wantAlone(t *testing.T, l *Lock, a *arena.Arena) {
	t.Helper()
	word := 0
	for i := range l.Slots() {
		if l.Spot(i).Pc >= api.AtHold {
			if word != 0 {
				t.Fatalf("slots %d and %d have it", word-1, i)
			}
			word = i + 1
		}
	}
	if w := a.Words(); !slices.Equal(w, []int{word}) {
		t.Fatalf("words %v; want %d", w, word)
	}
}

// Ts2: what the word is, whoever laid it down, is all that a try hangs on.
func TestWordOfOthers(t *testing.T) {
	for _, v := range []int{1, 2, -1, api.MaxInt, api.MinInt} {
		l, a := made(t, 2, 4)
		a.Store(1, v)
		l.Ask(0)
		wantDo(t, "Step", l.Step(0), false)
		if a.Words()[0] != v {
			t.Error(a.Words())
		}
		a.Store(1, 0)
		l.Step(0)
		wantDo(t, "Step", l.Step(0), true)
		a.Store(1, v)
		l.Leave(0)
		wantDo(t, "Step", l.Step(0), true)
		if a.Words()[0] != 0 {
			t.Error(a.Words())
		}
	}
}

// R1: every call ends, whatever it is given.
func TestEnds(t *testing.T) {
	done := make(chan bool)
	go func() {
		for _, x := range strange {
			for _, y := range strange {
				l, _ := New(arena.New(x), x, y)
				l.Ask(x)
				l.Step(y)
				l.Leave(x)
				l.Spot(y)
				l.Slots()
			}
		}
		done <- true
	}()
	select {
	case <-done:
	case <-time.After(time.Minute):
		t.Fatal("a call does not end")
	}
}
