package shared

import (
	"kissgate/api"
	"kissgate/auto"
	"slices"
	"testing"
	"time"
)

// one is a thread in the plain automaton.
type one struct {
	at  string
	who string
}

// plain is the automaton in the chapter's words: a thread that is at rest stands not in its map.
type plain struct {
	threads int
	is      map[int]one
}

func newPlain(threads int) *plain {
	switch {
	case threads < 0:
		threads = 0
	case threads > 32:
		threads = 32
	}
	return &plain{threads, map[int]one{}}
}

func (p *plain) state(thread int) (int, bool) {
	x := p.is[thread]
	return map[string]int{"": 0, "coming": 1, "in": 2, "going": 3}[x.at], x.who == "reader"
}

func (p *plain) writer() int {
	for thread := range p.threads {
		if p.is[thread] == (one{"in", "writer"}) {
			return thread
		}
	}
	return -1
}

func (p *plain) readers() int {
	many := 0
	for _, x := range p.is {
		if x == (one{"in", "reader"}) {
			many++
		}
	}
	return many
}

func (p *plain) do(e api.Event) api.Errno {
	switch e.Kind {
	case 0, 5:
		return api.OK
	case 1, 2, 3, 4:
	default:
		return api.ErrKind
	}
	if e.Thread < 0 || e.Thread >= p.threads {
		return api.ErrNone
	}
	x, rests := p.is[e.Thread]
	rests = !rests
	who := map[bool]string{true: "reader", false: "writer"}[e.Read]
	if e.Kind == 1 {
		if !rests {
			return api.ErrBusy
		}
		p.is[e.Thread] = one{"coming", who}
		return api.OK
	}
	if x.at != map[int]string{2: "coming", 3: "in", 4: "going"}[e.Kind] {
		return api.ErrNot
	}
	if x.who != who {
		return api.ErrKind
	}
	switch e.Kind {
	case 2:
		if p.writer() != -1 || who == "writer" && p.readers() != 0 {
			return api.ErrBusy
		}
		p.is[e.Thread] = one{"in", who}
	case 3:
		p.is[e.Thread] = one{"going", who}
	case 4:
		delete(p.is, e.Thread)
	}
	return api.OK
}

// check is Check, event by event.
func (p *plain) check(events []api.Event) (int, api.Errno) {
	for i, e := range events {
		if err := p.do(e); err != api.OK {
			return i, err
		}
	}
	return len(events), api.OK
}

// strange are numbers of all sorts.
var strange = []int{0, 1, -1, 2, -2, 3, 4, 5, 6, 31, 32, 33, 1 << 32, 1<<32 + 1, api.MaxInt, api.MaxInt - 1, api.MinInt, api.MinInt + 1}

// w is an event of a writer.
func w(kind, thread int) api.Event {
	return api.Event{Kind: kind, Thread: thread}
}

// r is an event of a reader.
func r(kind, thread int) api.Event {
	return api.Event{Kind: kind, Thread: thread, Read: true}
}

// traces are all traces of just so many events of some threads, and one that there is not, by the events that may matter.
func traces(long, threads int) [][]api.Event {
	all := [][]api.Event{nil}
	for range long {
		var longer [][]api.Event
		for _, trace := range all {
			for thread := range threads + 1 {
				for kind := api.EvAsk; kind <= api.EvRest; kind++ {
					longer = append(longer, append(slices.Clone(trace), w(kind, thread)), append(slices.Clone(trace), r(kind, thread)))
				}
			}
		}
		all = longer
	}
	return all
}

// wantSame holds all that an automaton tells against the plain one.
func wantSame(t *testing.T, l *Lock, p *plain, behind any) {
	t.Helper()
	wantIn(t, l, p.writer(), p.readers(), behind)
	for thread := -2; thread < 35; thread++ {
		at, read := p.state(thread)
		wantState(t, l, thread, at, read, behind)
	}
}

func wantIn(t *testing.T, l *Lock, writer, readers int, behind any) {
	t.Helper()
	if a, b := l.Writer(), l.Readers(); a != writer || b != readers {
		t.Errorf("behind %v: Writer %d, Readers %d; want %d, %d", behind, a, b, writer, readers)
	}
}

func wantState(t *testing.T, l *Lock, thread, at int, read bool, behind any) {
	t.Helper()
	if a, b := l.State(thread); a != at || b != read {
		t.Errorf("behind %v: State(%d) %d, %v; want %d, %v", behind, thread, a, b, at, read)
	}
}

func wantDo(t *testing.T, l *Lock, e api.Event, want api.Errno) {
	t.Helper()
	if got := l.Do(e); got != want {
		t.Errorf("Do(%v): %d; want %d", e, got, want)
	}
}

func wantCheck(t *testing.T, threads int, events []api.Event, at int, err api.Errno) {
	t.Helper()
	if i, got := Check(threads, events...); i != at || got != err {
		t.Errorf("Check(%d, %v): %d, %d; want %d, %d", threads, events[:min(len(events), 20)], i, got, at, err)
	}
}

// Sh1 and Sh2, the example of the chapter: two readers may be in at once, and no writer with them.
func TestExample(t *testing.T) {
	two := []api.Event{r(api.EvAsk, 0), r(api.EvAsk, 1), w(api.EvAsk, 2), r(api.EvEnter, 0), r(api.EvEnter, 1)}
	wantCheck(t, 3, two, 5, api.OK)
	wantCheck(t, 3, append(two, w(api.EvEnter, 2)), 5, api.ErrBusy)
	l := New(3)
	for _, e := range two {
		wantDo(t, l, e, api.OK)
	}
	wantIn(t, l, -1, 2, two)
	wantDo(t, l, w(api.EvEnter, 2), api.ErrBusy)
	wantDo(t, l, r(api.EvExit, 0), api.OK)
	wantDo(t, l, w(api.EvEnter, 2), api.ErrBusy)
	wantDo(t, l, r(api.EvExit, 1), api.OK)
	wantDo(t, l, w(api.EvEnter, 2), api.OK)
	wantIn(t, l, 2, 0, "the writer came")
}

// Sh1: how many threads there are, all at rest, and nobody in.
func TestNew(t *testing.T) {
	for threads := -3; threads <= 40; threads++ {
		wantSame(t, New(threads), newPlain(threads), threads)
		p := newPlain(threads)
		l := New(threads)
		for thread := -2; thread < 45; thread++ {
			wantDo(t, l, r(api.EvAsk, thread), p.do(r(api.EvAsk, thread)))
		}
		wantSame(t, l, p, "all asked")
	}
	for _, threads := range strange {
		l := New(threads)
		wantSame(t, l, newPlain(threads), threads)
		for _, thread := range strange {
			wantState(t, l, thread, api.StRest, false, threads)
		}
	}
}

// Sh1 and Sh2: what each thread is at, one time round as a reader, and one as a writer, and who is in.
func TestRound(t *testing.T) {
	for threads := 1; threads <= 32; threads++ {
		l := New(threads)
		for thread := range threads {
			for _, read := range []bool{true, false, true} {
				for _, x := range []struct{ kind, at int }{
					{api.EvAsk, api.StComing}, {api.EvEnter, api.StIn}, {api.EvExit, api.StGoing}, {api.EvRest, api.StRest},
				} {
					wantDo(t, l, api.Event{Kind: x.kind, Thread: thread, Read: read}, api.OK)
					wantState(t, l, thread, x.at, read && x.kind != api.EvRest, x.kind)
					switch {
					case x.at != api.StIn:
						wantIn(t, l, -1, 0, x.kind)
					case read:
						wantIn(t, l, -1, 1, "a reader came")
					default:
						wantIn(t, l, thread, 0, "a writer came")
					}
				}
			}
			wantDo(t, l, api.Event{Kind: api.EvAsk, Thread: thread, Read: thread%2 == 0}, api.OK)
		}
		for _, thread := range strange { // those that there are not, while all that there are are coming
			if thread < 0 || thread >= threads {
				wantState(t, l, thread, api.StRest, false, "all have asked")
			}
		}
	}
}

// Sh2: all short traces, whatever each event answered.
func TestDo(t *testing.T) {
	for long := range 5 {
		for _, trace := range traces(long, 1) {
			l, p := New(1), newPlain(1)
			for _, e := range trace {
				wantDo(t, l, e, p.do(e))
			}
			wantSame(t, l, p, trace)
		}
	}
	for long := range 4 {
		for _, trace := range traces(long, 2) {
			l, p := New(2), newPlain(2)
			for _, e := range trace {
				wantDo(t, l, e, p.do(e))
			}
			wantSame(t, l, p, trace)
		}
	}
}

// places are automata of three threads in each of their states, with the plain ones: each thread has gone so far as it may, as a reader or as a writer.
func places() ([]*Lock, []*plain) {
	var locks []*Lock
	var plains []*plain
	for n := range 8 * 8 * 8 {
		l, p := New(3), newPlain(3)
		for _, thread := range []int{0, 1, 2} {
			how := n >> (3 * thread) & 7
			for kind := 1; kind <= how/2; kind++ {
				e := api.Event{Kind: kind, Thread: thread, Read: how%2 == 1}
				l.Do(e)
				p.do(e)
			}
		}
		locks, plains = append(locks, l), append(plains, p)
	}
	return locks, plains
}

// Sh2: each event in each state of three threads.
func TestDoPlaces(t *testing.T) {
	for kind := -1; kind <= 6; kind++ {
		for thread := -1; thread <= 3; thread++ {
			for _, read := range []bool{false, true} {
				e := api.Event{Kind: kind, Thread: thread, Read: read}
				locks, plains := places()
				for i, l := range locks {
					wantSame(t, l, plains[i], "nothing")
					wantDo(t, l, e, plains[i].do(e))
					wantSame(t, l, plains[i], e)
				}
			}
		}
	}
}

// Sh2: events of all kinds, threads and counts, of readers and not: the first error, and with one nothing changes.
func TestDoStrange(t *testing.T) {
	for _, kind := range append([]int{-3, 7, 100}, strange...) {
		for _, thread := range strange {
			for _, read := range []bool{false, true} {
				for _, count := range []int{0, 1, -1, 5, api.MaxInt, api.MinInt} {
					e := api.Event{Kind: kind, Thread: thread, Read: read, Count: count}
					l, p := New(3), newPlain(3)
					for _, first := range []api.Event{r(api.EvAsk, 0), w(api.EvAsk, 1), r(api.EvEnter, 0), r(api.EvAsk, 2)} {
						l.Do(first)
						p.do(first)
					}
					wantDo(t, l, e, p.do(e))
					wantSame(t, l, p, e)
				}
			}
		}
	}
}

// Sh2: the errors by their words, in their order.
func TestDoErrors(t *testing.T) {
	l := New(3)
	wantDo(t, l, r(6, 9), api.ErrKind)
	wantDo(t, l, w(-1, 0), api.ErrKind)
	wantDo(t, l, r(api.EvNone, -1), api.OK)
	wantDo(t, l, r(api.EvBad, 77), api.OK)
	wantDo(t, l, w(api.EvNone, 0), api.OK)
	wantDo(t, l, w(api.EvBad, 3), api.OK)
	wantDo(t, l, r(api.EvAsk, 3), api.ErrNone)
	wantDo(t, l, w(api.EvEnter, -1), api.ErrNone)
	for _, kind := range []int{api.EvEnter, api.EvExit, api.EvRest} {
		wantDo(t, l, w(kind, 0), api.ErrNot)
		wantDo(t, l, r(kind, 0), api.ErrNot) // at rest it is no writer either, but it is not coming ahead of that
	}
	wantDo(t, l, r(api.EvAsk, 0), api.OK)
	wantDo(t, l, r(api.EvAsk, 0), api.ErrBusy)
	wantDo(t, l, w(api.EvAsk, 0), api.ErrBusy) // of an EvAsk it does not matter what it is
	wantDo(t, l, w(api.EvEnter, 0), api.ErrKind)
	wantDo(t, l, w(api.EvExit, 0), api.ErrNot)
	wantDo(t, l, w(api.EvAsk, 1), api.OK)
	wantDo(t, l, r(api.EvEnter, 1), api.ErrKind)
	wantDo(t, l, w(api.EvEnter, 1), api.OK)
	wantIn(t, l, 1, 0, "a writer came")
	wantDo(t, l, r(api.EvEnter, 0), api.ErrBusy)
	wantDo(t, l, w(api.EvEnter, 0), api.ErrKind) // what it is is asked for ahead of who is in
	wantDo(t, l, r(api.EvEnter, 2), api.ErrNot)
	wantDo(t, l, w(api.EvAsk, 2), api.OK)
	wantDo(t, l, w(api.EvEnter, 2), api.ErrBusy)
	wantDo(t, l, w(api.EvEnter, 1), api.ErrNot) // it is in itself, and is not coming
	wantDo(t, l, r(api.EvExit, 1), api.ErrKind)
	wantDo(t, l, w(api.EvExit, 1), api.OK)
	wantDo(t, l, r(api.EvRest, 1), api.ErrKind)
	wantDo(t, l, r(api.EvAsk, 1), api.ErrBusy)
	wantDo(t, l, r(api.EvEnter, 0), api.OK) // who is going is in no more
	wantDo(t, l, w(api.EvEnter, 2), api.ErrBusy)
	wantDo(t, l, w(api.EvRest, 1), api.OK)
	wantDo(t, l, r(api.EvAsk, 1), api.OK) // it was a writer, and may be a reader the next time
	wantDo(t, l, r(api.EvEnter, 1), api.OK)
	wantDo(t, l, w(api.EvExit, 0), api.ErrKind)
	wantDo(t, l, r(api.EvExit, 0), api.OK)
	wantIn(t, l, -1, 1, "one reader left")
	wantSame(t, l, &plain{3, map[int]one{0: {"going", "reader"}, 1: {"in", "reader"}, 2: {"coming", "writer"}}}, "all of them")
}

// Sh1 and Sh2: with the most threads, the last one, too.
func TestMost(t *testing.T) {
	l := New(1000)
	for thread := range 32 {
		wantDo(t, l, api.Event{Kind: api.EvAsk, Thread: thread, Read: thread < 31}, api.OK)
	}
	wantDo(t, l, r(api.EvAsk, 32), api.ErrNone)
	for thread := range 31 {
		wantDo(t, l, r(api.EvEnter, thread), api.OK)
		wantIn(t, l, -1, thread+1, thread)
		wantDo(t, l, w(api.EvEnter, 31), api.ErrBusy)
	}
	for thread := range 31 {
		wantDo(t, l, w(api.EvEnter, 31), api.ErrBusy)
		wantDo(t, l, r(api.EvExit, thread), api.OK)
		wantIn(t, l, -1, 30-thread, thread)
	}
	wantDo(t, l, w(api.EvEnter, 31), api.OK)
	wantIn(t, l, 31, 0, "the writer came")
	for thread := range 31 {
		wantDo(t, l, r(api.EvRest, thread), api.OK)
		wantDo(t, l, r(api.EvAsk, thread), api.OK)
		wantDo(t, l, r(api.EvEnter, thread), api.ErrBusy)
	}
	wantIn(t, l, 31, 0, "none else came")
}

// Sh2: Check of all short traces, and what is behind the first error does not matter.
func TestCheck(t *testing.T) {
	for long := range 5 {
		for _, trace := range traces(long, 1) {
			at, err := newPlain(1).check(trace)
			wantCheck(t, 1, trace, at, err)
		}
	}
	for _, threads := range append(slices.Clone(strange), 2) {
		for _, trace := range append(traces(1, 2), traces(2, 2)...) {
			at, err := newPlain(threads).check(trace)
			wantCheck(t, threads, trace, at, err)
		}
	}
}

// Sh2: Check of no events, of those that are always OK, and of wrong ones at each place.
func TestCheckPlaces(t *testing.T) {
	wantCheck(t, 2, nil, 0, api.OK)
	wantCheck(t, 0, []api.Event{}, 0, api.OK)
	wantCheck(t, 0, []api.Event{{}, r(api.EvBad, 3), r(api.EvNone, 0)}, 3, api.OK)
	var round []api.Event
	for i := range 40 {
		round = append(round, api.Event{Kind: i%4 + 1, Thread: 1, Read: i/4%2 == 0})
	}
	for i, e := range round {
		e.Read = !e.Read
		wrong := api.ErrKind
		if e.Kind == api.EvAsk {
			e, wrong = w(api.EvRest, 1), api.ErrNot
		}
		wantCheck(t, 2, slices.Insert(slices.Clone(round), i, e), i, wrong)
		wantCheck(t, 2, slices.Insert(slices.Clone(round), i, r(6, 1)), i, api.ErrKind)
		wantCheck(t, 2, slices.Insert(slices.Clone(round), i, r(api.EvAsk, 2)), i, api.ErrNone)
		wantCheck(t, 2, slices.Insert(slices.Clone(round), i, r(api.EvRest, 0)), i, api.ErrNot)
		wantCheck(t, 2, slices.Insert(slices.Clone(round), i, r(api.EvNone, -1)), 41, api.OK)
	}
	wantCheck(t, 2, round, 40, api.OK)
	wantCheck(t, 2, append(round, w(api.EvAsk, 1), r(api.EvAsk, 1)), 41, api.ErrBusy)
}

// Sh1 and R5: nil, and a zero one, have no threads.
func TestNone(t *testing.T) {
	for _, l := range []*Lock{nil, {}, New(0), New(-1)} {
		wantSame(t, l, newPlain(0), "nothing")
		for _, thread := range strange {
			for _, read := range []bool{false, true} {
				for _, kind := range strange {
					want := api.ErrKind
					switch kind {
					case api.EvNone, api.EvBad:
						want = api.OK
					case api.EvAsk, api.EvEnter, api.EvExit, api.EvRest:
						want = api.ErrNone
					}
					wantDo(t, l, api.Event{Kind: kind, Thread: thread, Read: read}, want)
				}
			}
			wantState(t, l, thread, api.StRest, false, "events")
		}
		wantSame(t, l, newPlain(0), "events")
	}
}

// lcg draws the same numbers in each run.
type lcg uint32

func (x *lcg) next(below int) int {
	*x = *x*1664525 + 1013904223
	return int(*x>>8) % below
}

// Sh3: behind whatever events a writer is in alone.
func TestAlone(t *testing.T) {
	l, p := New(4), newPlain(4)
	x := lcg(1)
	most := 0
	for range 200000 {
		e := api.Event{Kind: x.next(7), Thread: x.next(6) - 1, Read: x.next(3) > 0}
		wantDo(t, l, e, p.do(e))
		writers, readers := []int{-1}, 0
		for thread := range 4 {
			switch at, read := l.State(thread); {
			case at == api.StIn && read:
				readers++
			case at == api.StIn:
				writers = append(writers, thread)
			}
		}
		if len(writers) > 2 || len(writers) == 2 && readers > 0 {
			t.Fatalf("in are the writers %v, and %d readers", writers[1:], readers)
		}
		wantIn(t, l, writers[len(writers)-1], readers, e)
		most = max(most, readers)
	}
	if most != 4 {
		t.Errorf("%d readers were in at once; want 4 some time", most)
	}
}

// Sh3: without readers it is layer 10's.
func TestWithoutReaders(t *testing.T) {
	for _, threads := range append(slices.Clone(strange), 7) {
		l, a := New(threads), auto.New(threads)
		x := lcg(threads)
		var events []api.Event
		for range 10000 {
			e := w(x.next(8)-1, x.next(5)-1)
			events = append(events, e)
			wantDo(t, l, e, a.Do(e))
			wantIn(t, l, a.Holder(), 0, e)
			for thread := -1; thread < 5; thread++ {
				wantState(t, l, thread, a.State(thread), false, e)
			}
		}
		for i := range 1000 {
			at, err := auto.Check(threads, events[i:]...)
			wantCheck(t, threads, events[i:], at, err)
		}
	}
}

// R3 and R4: automata share nothing, and events are not changed.
func TestNewMemory(t *testing.T) {
	a, b := New(2), New(2)
	wantDo(t, a, r(api.EvAsk, 0), api.OK)
	wantSame(t, b, newPlain(2), "nothing")
	wantDo(t, b, w(api.EvAsk, 1), api.OK)
	wantSame(t, a, &plain{2, map[int]one{0: {"coming", "reader"}}}, "one that asks")
	events := []api.Event{r(api.EvAsk, 0), {Kind: api.EvEnter, Read: true, Count: 3}, r(api.EvExit, 0), r(api.EvEnter, 0)}
	kept := slices.Clone(events)
	wantCheck(t, 1, events, 3, api.ErrNot)
	wantCheck(t, 1, events, 3, api.ErrNot)
	if !slices.Equal(events, kept) {
		t.Errorf("events %v; want %v", events, kept)
	}
}

// R1: calls end, of long traces, too.
func TestEnds(t *testing.T) {
	done := make(chan bool)
	go func() {
		long := make([]api.Event, 1<<20)
		for i := range long {
			long[i] = api.Event{Kind: i%4 + 1, Thread: 31, Read: i/4%2 == 0}
		}
		for _, threads := range strange {
			Check(threads, long...)
			Check(threads, make([]api.Event, 1<<20)...)
		}
		close(done)
	}()
	select {
	case <-done:
	case <-time.After(time.Minute):
		t.Fatal("a call does not end")
	}
}
