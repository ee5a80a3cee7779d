package auto

import (
	"kissgate/api"
	"slices"
	"testing"
	"time"
)

// plain is the automaton in the chapter's words: what a thread is at stands in a map, at rest if it does not.
type plain struct {
	threads int
	at      map[int]string
}

func newPlain(threads int) *plain {
	switch {
	case threads < 0:
		threads = 0
	case threads > 32:
		threads = 32
	}
	return &plain{threads, map[int]string{}}
}

func (p *plain) state(thread int) int {
	return map[string]int{"": 0, "coming": 1, "in": 2, "going": 3}[p.at[thread]]
}

func (p *plain) holder() int {
	for thread := range p.threads {
		if p.at[thread] == "in" {
			return thread
		}
	}
	return -1
}

func (p *plain) do(e api.Event) api.Errno {
	known := e.Kind == 0 || e.Kind == 1 || e.Kind == 2 || e.Kind == 3 || e.Kind == 4 || e.Kind == 5
	if !known || e.Read {
		return api.ErrKind
	}
	if e.Kind == 0 || e.Kind == 5 {
		return api.OK
	}
	if e.Thread < 0 || e.Thread >= p.threads {
		return api.ErrNone
	}
	at := p.at[e.Thread]
	switch {
	case e.Kind == 1 && at != "":
		return api.ErrBusy
	case e.Kind == 2 && at != "coming", e.Kind == 3 && at != "in", e.Kind == 4 && at != "going":
		return api.ErrNot
	case e.Kind == 2 && p.holder() != -1:
		return api.ErrBusy
	}
	p.at[e.Thread] = map[int]string{1: "coming", 2: "in", 3: "going", 4: ""}[e.Kind]
	return api.OK
}

// check is Check, event by event.
func (p *plain) check(events []api.Event) (int, api.Errno) {
	for i, e := range events {
		if err := p.do(e); err != api.OK {
			return i, err
		}
	}
	return len(events), api.OK
}

// strange are numbers of all sorts.
var strange = []int{0, 1, -1, 2, -2, 3, 4, 5, 6, 31, 32, 33, 1 << 32, 1<<32 + 1, api.MaxInt, api.MaxInt - 1, api.MinInt, api.MinInt + 1}

// ev is an event of a writer.
func ev(kind, thread int) api.Event {
	return api.Event{Kind: kind, Thread: thread}
}

// traces are all traces of just so many events of some threads, by the events that may matter.
func traces(long, threads int) [][]api.Event {
	all := [][]api.Event{nil}
	for range long {
		var longer [][]api.Event
		for _, trace := range all {
			for thread := range threads + 1 {
				for kind := api.EvAsk; kind <= api.EvRest; kind++ {
					longer = append(longer, append(slices.Clone(trace), ev(kind, thread)))
				}
			}
		}
		all = longer
	}
	return all
}

// wantSame holds all that an automaton tells against the plain one.
func wantSame(t *testing.T, l *Lock, p *plain, behind any) {
	t.Helper()
	if got := l.Threads(); got != p.threads {
		t.Errorf("behind %v: Threads %d; want %d", behind, got, p.threads)
	}
	if got, want := l.Holder(), p.holder(); got != want {
		t.Errorf("behind %v: Holder %d; want %d", behind, got, want)
	}
	for thread := -2; thread < 35; thread++ {
		wantState(t, l, thread, p.state(thread), behind)
	}
}

func wantState(t *testing.T, l *Lock, thread, want int, behind any) {
	t.Helper()
	if got := l.State(thread); got != want {
		t.Errorf("behind %v: State(%d) %d; want %d", behind, thread, got, want)
	}
}

func wantDo(t *testing.T, l *Lock, e api.Event, want api.Errno) {
	t.Helper()
	if got := l.Do(e); got != want {
		t.Errorf("Do(%v): %d; want %d", e, got, want)
	}
}

func wantCheck(t *testing.T, threads int, events []api.Event, at int, err api.Errno) {
	t.Helper()
	if i, got := Check(threads, events...); i != at || got != err {
		t.Errorf("Check(%d, %v): %d, %d; want %d, %d", threads, events[:min(len(events), 20)], i, got, at, err)
	}
}

// Au2 and Au3, the example of the chapter: of two threads that ask, and both enter, the second one is ErrBusy.
func TestExample(t *testing.T) {
	wantCheck(t, 2, []api.Event{ev(api.EvAsk, 0), ev(api.EvAsk, 1), ev(api.EvEnter, 0), ev(api.EvEnter, 1)}, 3, api.ErrBusy)
	wantCheck(t, 2, []api.Event{ev(api.EvAsk, 0), ev(api.EvAsk, 1), ev(api.EvEnter, 1), ev(api.EvExit, 1), ev(api.EvEnter, 0)}, 5, api.OK)
}

// Au1: how many threads there are, all at rest, and nobody in.
func TestNew(t *testing.T) {
	for threads := -3; threads <= 40; threads++ {
		wantSame(t, New(threads), newPlain(threads), threads)
	}
	for _, threads := range strange {
		l := New(threads)
		wantSame(t, l, newPlain(threads), threads)
		for _, thread := range strange {
			wantState(t, l, thread, api.StRest, threads)
		}
	}
}

// Au1: what each thread is at, one time round, and who is in.
func TestRound(t *testing.T) {
	for threads := 1; threads <= 32; threads++ {
		l := New(threads)
		for thread := range threads {
			for _, x := range []struct{ kind, state, holder int }{
				{api.EvAsk, api.StComing, -1}, {api.EvEnter, api.StIn, thread},
				{api.EvExit, api.StGoing, -1}, {api.EvRest, api.StRest, -1}, {api.EvAsk, api.StComing, -1},
			} {
				wantDo(t, l, ev(x.kind, thread), api.OK)
				wantState(t, l, thread, x.state, x.kind)
				if got := l.Holder(); got != x.holder {
					t.Errorf("behind %d of %d: Holder %d; want %d", x.kind, thread, got, x.holder)
				}
			}
		}
		for _, thread := range strange { // those that there are not, while all that there are are coming
			if thread < 0 || thread >= threads {
				wantState(t, l, thread, api.StRest, "all have asked")
			}
		}
	}
}

// Au2: each event ahead of which each short trace was told, whatever it answered.
func TestDo(t *testing.T) {
	for long := range 5 {
		for _, trace := range traces(long, 2) {
			l, p := New(2), newPlain(2)
			for _, e := range trace {
				wantDo(t, l, e, p.do(e))
			}
			wantSame(t, l, p, trace)
		}
	}
}

// places are automata of two threads in each of their states, with the plain ones.
func places() ([]*Lock, []*plain) {
	var locks []*Lock
	var plains []*plain
	for a := range 5 {
		for b := range 5 {
			l, p := New(2), newPlain(2)
			for kind := 1; kind <= a; kind++ {
				l.Do(ev(kind, 0))
				p.do(ev(kind, 0))
			}
			for kind := 1; kind <= b; kind++ {
				l.Do(ev(kind, 1))
				p.do(ev(kind, 1))
			}
			locks, plains = append(locks, l), append(plains, p)
		}
	}
	return locks, plains
}

// Au2: events of all kinds, threads and counts, of readers and not, in each state: the first error, and with one nothing changes.
func TestDoStrange(t *testing.T) {
	for _, kind := range append([]int{-3, 7, 100}, strange...) {
		for _, thread := range strange {
			for _, read := range []bool{false, true} {
				for _, count := range []int{0, 1, -1, 5, api.MaxInt, api.MinInt} {
					e := api.Event{Kind: kind, Thread: thread, Read: read, Count: count}
					locks, plains := places()
					for i, l := range locks {
						wantDo(t, l, e, plains[i].do(e))
						wantSame(t, l, plains[i], e)
					}
				}
			}
		}
	}
}

// Au2: the errors by their words, in their order.
func TestDoErrors(t *testing.T) {
	l := New(2)
	wantDo(t, l, api.Event{Kind: 6, Thread: 9, Read: true}, api.ErrKind)
	wantDo(t, l, api.Event{Kind: -1, Thread: 0}, api.ErrKind)
	wantDo(t, l, api.Event{Kind: api.EvNone, Thread: -1, Read: true}, api.ErrKind)
	wantDo(t, l, api.Event{Kind: api.EvBad, Thread: 0, Read: true}, api.ErrKind)
	wantDo(t, l, api.Event{Kind: api.EvAsk, Thread: 9, Read: true}, api.ErrKind)
	wantDo(t, l, api.Event{Kind: api.EvAsk, Thread: 0, Read: true}, api.ErrKind)
	wantDo(t, l, ev(api.EvNone, -1), api.OK)
	wantDo(t, l, ev(api.EvBad, 77), api.OK)
	wantDo(t, l, ev(api.EvAsk, 2), api.ErrNone)
	wantDo(t, l, ev(api.EvEnter, -1), api.ErrNone)
	wantDo(t, l, ev(api.EvEnter, 0), api.ErrNot)
	wantDo(t, l, ev(api.EvExit, 0), api.ErrNot)
	wantDo(t, l, ev(api.EvRest, 0), api.ErrNot)
	wantDo(t, l, ev(api.EvAsk, 0), api.OK)
	wantDo(t, l, ev(api.EvAsk, 0), api.ErrBusy)
	wantDo(t, l, ev(api.EvEnter, 0), api.OK)
	wantDo(t, l, ev(api.EvAsk, 0), api.ErrBusy)
	wantDo(t, l, ev(api.EvEnter, 0), api.ErrNot) // it is in itself, and is not coming
	wantDo(t, l, ev(api.EvEnter, 1), api.ErrNot) // somebody is in, but it is not coming
	wantDo(t, l, ev(api.EvAsk, 1), api.OK)
	wantDo(t, l, ev(api.EvEnter, 1), api.ErrBusy)
	wantDo(t, l, ev(api.EvExit, 1), api.ErrNot)
	wantDo(t, l, ev(api.EvExit, 0), api.OK)
	wantDo(t, l, ev(api.EvAsk, 0), api.ErrBusy)
	wantDo(t, l, ev(api.EvEnter, 1), api.OK) // who is going is in no more
	wantDo(t, l, ev(api.EvRest, 0), api.OK)
	wantDo(t, l, ev(api.EvRest, 0), api.ErrNot)
	wantSame(t, l, &plain{2, map[int]string{1: "in"}}, "all of them")
}

// Au2: with the most threads, the last one, too.
func TestMost(t *testing.T) {
	l := New(1000)
	for thread := range 32 {
		wantDo(t, l, ev(api.EvAsk, thread), api.OK)
	}
	wantDo(t, l, ev(api.EvAsk, 32), api.ErrNone)
	wantDo(t, l, ev(api.EvEnter, 31), api.OK)
	for thread := range 31 {
		wantDo(t, l, ev(api.EvEnter, thread), api.ErrBusy)
	}
	if got := l.Holder(); got != 31 {
		t.Errorf("Holder %d; want 31", got)
	}
}

// Au3: Check of all short traces, and what is behind the first error does not matter.
func TestCheck(t *testing.T) {
	for long := range 5 {
		for _, trace := range traces(long, 2) {
			at, err := newPlain(2).check(trace)
			wantCheck(t, 2, trace, at, err)
		}
	}
	for _, threads := range strange {
		for _, trace := range traces(2, 2) {
			at, err := newPlain(threads).check(trace)
			wantCheck(t, threads, trace, at, err)
		}
	}
}

// Au3: no events, those that are always OK, and wrong ones at each place.
func TestCheckPlaces(t *testing.T) {
	wantCheck(t, 2, nil, 0, api.OK)
	wantCheck(t, 0, []api.Event{}, 0, api.OK)
	wantCheck(t, 0, []api.Event{{}, ev(api.EvBad, 3), {}}, 3, api.OK)
	var round []api.Event
	for i := range 40 {
		round = append(round, ev(i%4+1, 1))
	}
	for i := range round {
		for _, x := range []struct {
			e   api.Event
			err api.Errno
		}{{ev(6, 1), api.ErrKind}, {ev(api.EvAsk, 2), api.ErrNone}, {ev(api.EvRest, 0), api.ErrNot}, {api.Event{Read: true}, api.ErrKind}} {
			wantCheck(t, 2, slices.Insert(slices.Clone(round), i, x.e), i, x.err)
		}
		wantCheck(t, 2, slices.Insert(slices.Clone(round), i, ev(api.EvNone, -1)), 41, api.OK)
	}
	wantCheck(t, 2, round, 40, api.OK)
	wantCheck(t, 2, append(round, ev(api.EvAsk, 1), ev(api.EvAsk, 1)), 41, api.ErrBusy)
}

// Au3 and R5: nil, and a zero one, have no threads.
func TestNone(t *testing.T) {
	for _, l := range []*Lock{nil, {}, New(0), New(-1)} {
		wantSame(t, l, newPlain(0), "nothing")
		for _, thread := range strange {
			wantDo(t, l, ev(api.EvNone, thread), api.OK)
			wantDo(t, l, ev(api.EvBad, thread), api.OK)
			for kind := api.EvAsk; kind <= api.EvRest; kind++ {
				wantDo(t, l, ev(kind, thread), api.ErrNone)
				wantDo(t, l, api.Event{Kind: kind, Thread: thread, Read: true}, api.ErrKind)
			}
			wantDo(t, l, ev(6, thread), api.ErrKind)
		}
		wantSame(t, l, newPlain(0), "events")
	}
}

// Au4: behind whatever events nobody is in, or just one, and who enters has asked, and has not entered since.
func TestFollows(t *testing.T) {
	l := New(3)
	asked := map[int]bool{}
	x := uint32(1)
	for range 200000 {
		x = x*1664525 + 1013904223
		e := api.Event{Kind: int(x>>24) % 7, Thread: int(x>>16)%5 - 1, Read: x>>10&15 == 0}
		if l.Do(e) == api.OK {
			if e.Kind == api.EvEnter && !asked[e.Thread] {
				t.Fatalf("thread %d enters, and has not asked", e.Thread)
			}
			if e.Kind == api.EvAsk || e.Kind == api.EvEnter {
				asked[e.Thread] = e.Kind == api.EvAsk
			}
		}
		in := []int{-1}
		for thread := range 3 {
			if l.State(thread) == api.StIn {
				in = append(in, thread)
			}
		}
		if len(in) > 2 || l.Holder() != in[len(in)-1] {
			t.Fatalf("in are %v; Holder %d", in[1:], l.Holder())
		}
	}
}

// R3 and R4: automata share nothing, and events are not changed.
func TestNewMemory(t *testing.T) {
	a, b := New(2), New(2)
	wantDo(t, a, ev(api.EvAsk, 0), api.OK)
	wantSame(t, b, newPlain(2), "nothing")
	wantDo(t, b, ev(api.EvAsk, 1), api.OK)
	wantSame(t, a, &plain{2, map[int]string{0: "coming"}}, "one that asks")
	events := []api.Event{ev(api.EvAsk, 0), {Kind: api.EvEnter, Count: 3}, ev(api.EvExit, 0), ev(api.EvEnter, 0)}
	kept := slices.Clone(events)
	wantCheck(t, 1, events, 3, api.ErrNot)
	wantCheck(t, 1, events, 3, api.ErrNot)
	if !slices.Equal(events, kept) {
		t.Errorf("events %v; want %v", events, kept)
	}
}

// R1: calls end, of long traces, too.
func TestEnds(t *testing.T) {
	done := make(chan bool)
	go func() {
		long := make([]api.Event, 1<<20)
		for i := range long {
			long[i] = ev(i%4+1, 31)
		}
		for _, threads := range strange {
			Check(threads, long...)
			Check(threads, make([]api.Event, 1<<20)...)
		}
		close(done)
	}()
	select {
	case <-done:
	case <-time.After(time.Minute):
		t.Fatal("a call does not end")
	}
}
