package bypass

import (
	"kissgate/api"
	"kissgate/auto"
	"kissgate/tally"
	"kissgate/tenure"
	"slices"
	"testing"
	"time"
)

// plainFrom are the passes in the chapter's words: event by event, each of which is looked at by itself.
func plainFrom(nodes []int, thread, from, to int, events []api.Event) api.Pass {
	var p api.Pass
	for place, e := range events {
		if e.Kind != 2 || place <= from || place >= to || e.Thread == thread {
			continue
		}
		if plainNode(nodes, e.Thread) == plainNode(nodes, thread) {
			p.Same++
		} else {
			p.Other++
		}
	}
	return p
}

// plainNode looks for the thread's place among all places.
func plainNode(nodes []int, thread int) int {
	for place, node := range nodes {
		if place == thread {
			return node
		}
	}
	return -1
}

// plain are the passes of each stay, from its Ask to its Enter, or to the end.
func plain(nodes []int, events []api.Event) []api.Pass {
	var l []api.Pass
	for _, s := range tally.Of(events...) {
		to := s.Enter
		if to == -1 {
			to = len(events)
		}
		l = append(l, plainFrom(nodes, s.Thread, s.Ask, to, events))
	}
	return l
}

// plainWorst are the last ones of the sorted numbers.
func plainWorst(l []api.Pass) api.Pass {
	var same, other []int
	for _, p := range l {
		same, other = append(same, p.Same), append(other, p.Other)
	}
	if len(l) == 0 {
		return api.Pass{}
	}
	slices.Sort(same)
	slices.Sort(other)
	return api.Pass{Same: same[len(l)-1], Other: other[len(l)-1]}
}

// strange are numbers of all sorts.
var strange = []int{0, 1, -1, 2, -2, 3, 4, 5, 31, 32, 33, 1 << 32, 1<<32 + 1, api.MaxInt, api.MaxInt - 1, api.MinInt, api.MinInt + 1}

func ask(thread int) api.Event  { return api.Event{Kind: api.EvAsk, Thread: thread} }
func in(thread int) api.Event   { return api.Event{Kind: api.EvEnter, Thread: thread, Count: 1} }
func out(thread int) api.Event  { return api.Event{Kind: api.EvExit, Thread: thread} }
func rest(thread int) api.Event { return api.Event{Kind: api.EvRest, Thread: thread} }

// pass is as many passes of the own node, and of others.
func pass(same, other int) api.Pass {
	return api.Pass{Same: same, Other: other}
}

// few is the beginning of a list, so that what a test says is not too long.
func few[T any](l []T) []T {
	return l[:min(len(l), 20)]
}

func wantOf(t *testing.T, nodes []int, events []api.Event, want ...api.Pass) {
	t.Helper()
	if got := Of(nodes, events...); !slices.Equal(got, want) {
		t.Errorf("Of(%v, %v): %v; want %v", few(nodes), few(events), few(got), few(want))
	}
}

func wantFrom(t *testing.T, nodes []int, thread, from, to int, events []api.Event, want api.Pass) {
	t.Helper()
	if got := From(nodes, thread, from, to, events...); got != want {
		t.Errorf("From(%v, %d, %d, %d, %v): %v; want %v", few(nodes), thread, from, to, few(events), got, want)
	}
}

func wantWorst(t *testing.T, l []api.Pass, want api.Pass) {
	t.Helper()
	if got := Worst(l...); got != want {
		t.Errorf("Worst(%v): %v; want %v", few(l), got, want)
	}
}

// wantSame holds all that is told of a trace against the plain words.
func wantSame(t *testing.T, nodes []int, events []api.Event) {
	t.Helper()
	want := plain(nodes, events)
	wantOf(t, nodes, events, want...)
	wantWorst(t, want, plainWorst(want))
}

// lcg draws the same numbers in each run.
type lcg uint32

func (x *lcg) next(below int) int {
	*x = *x*1664525 + 1013904223
	return int(*x>>8) % below
}

// drawnNodes are the nodes of some threads, some of which are no node's number.
func drawnNodes(x *lcg, threads int) []int {
	nodes := make([]int, threads)
	for i := range nodes {
		nodes[i] = x.next(4) - 1
	}
	return nodes
}

// drawn is a trace of any events, of threads some of which have no place.
func drawn(x *lcg, long, threads int) []api.Event {
	events := make([]api.Event, long)
	for i := range events {
		kind := []int{api.EvAsk, api.EvAsk, api.EvEnter, api.EvEnter, api.EvEnter, api.EvExit, api.EvRest, api.EvNone, api.EvBad, 6, -1}[x.next(11)]
		events[i] = api.Event{Kind: kind, Thread: x.next(threads+2) - 1, Read: x.next(2) == 0, Count: x.next(4)}
	}
	return events
}

// legal is a drawn trace that a lock's automaton takes.
func legal(x *lcg, long, threads int) []api.Event {
	l := auto.New(threads)
	var events []api.Event
	for range long {
		e := api.Event{Kind: 1 + x.next(4), Thread: x.next(threads), Count: 1}
		if l.Do(e) == api.OK {
			events = append(events, e)
		}
	}
	return events
}

// By1, the example of the chapter: one waits while two others enter, one of them of its node: 1 and 1.
func TestExample(t *testing.T) {
	nodes := []int{0, 0, 1}
	events := []api.Event{ask(0), ask(1), in(1), out(1), ask(2), rest(1), in(2), out(2), in(0)}
	wantOf(t, nodes, events, pass(1, 1), pass(0, 0), pass(0, 0))
	wantFrom(t, nodes, 0, 0, 8, events, pass(1, 1))
	wantWorst(t, Of(nodes, events...), pass(1, 1))
}

// By1: of nothing there is nothing; nil and empty lists are the same.
func TestNone(t *testing.T) {
	for _, nodes := range [][]int{nil, {}, {0, 1}} {
		for _, events := range [][]api.Event{nil, {}} {
			wantOf(t, nodes, events)
			for _, n := range strange {
				wantFrom(t, nodes, n, -1, len(events), events, api.Pass{})
				wantFrom(t, nodes, 0, n, n, events, api.Pass{})
			}
		}
		// no stays, as nobody asks
		wantOf(t, nodes, []api.Event{in(0), out(0), rest(0), in(1), {}, {Kind: api.EvBad}, {Kind: 6}})
	}
	wantWorst(t, nil, api.Pass{})
	wantWorst(t, []api.Pass{}, api.Pass{})
}

// By1: places above from, and below to: neither of the two is itself among them.
func TestBetween(t *testing.T) {
	nodes := []int{0, 0, 1}
	events := []api.Event{in(1), in(2), in(1), in(2), in(2)}
	wantFrom(t, nodes, 0, -1, 5, events, pass(2, 3))
	wantFrom(t, nodes, 0, 0, 5, events, pass(1, 3))
	wantFrom(t, nodes, 0, 0, 4, events, pass(1, 2))
	wantFrom(t, nodes, 0, 1, 3, events, pass(1, 0))
	wantFrom(t, nodes, 0, 2, 4, events, pass(0, 1))
	wantFrom(t, nodes, 0, 2, 3, events, pass(0, 0))
	wantFrom(t, nodes, 0, 2, 2, events, pass(0, 0))
	wantFrom(t, nodes, 0, 4, 0, events, pass(0, 0)) // no place is above 4, and below 0
	wantFrom(t, nodes, 0, 3, 5, events, pass(0, 1))
	wantFrom(t, nodes, 0, 4, 5, events, pass(0, 0))
	wantFrom(t, nodes, 0, api.MinInt, api.MaxInt, events, pass(2, 3))
	wantFrom(t, nodes, 0, api.MinInt, 1, events, pass(1, 0))
	wantFrom(t, nodes, 0, 3, api.MaxInt, events, pass(0, 1))
	wantFrom(t, nodes, 0, api.MaxInt, api.MinInt, events, pass(0, 0))
	for _, from := range strange {
		for _, to := range strange {
			for _, thread := range strange {
				wantFrom(t, nodes, thread, from, to, events, plainFrom(nodes, thread, from, to, events))
			}
		}
	}
}

// By1: others are of another number; what the thread enters itself is no pass, from wherever it is counted.
func TestOthers(t *testing.T) {
	nodes := []int{0, 0, 1}
	events := []api.Event{in(0), in(0), in(1), in(0), in(2)}
	wantFrom(t, nodes, 0, -1, 5, events, pass(1, 1))
	wantFrom(t, nodes, 1, -1, 5, events, pass(3, 1))
	wantFrom(t, nodes, 2, -1, 5, events, pass(0, 4))
	// other events of others are no entries, even where they are of the same thread
	others := []api.Event{ask(1), out(1), rest(1), {Kind: api.EvNone, Thread: 1, Count: 1}, {Kind: api.EvBad, Thread: 1, Count: 1}, {Kind: 6, Thread: 1, Count: 1}, {Kind: -2, Thread: 1}}
	wantFrom(t, nodes, 0, -1, len(others), others, pass(0, 0))
	// readers enter, too, as do all of any Count
	wantFrom(t, nodes, 0, -1, 3, []api.Event{{Kind: api.EvEnter, Thread: 1, Read: true}, {Kind: api.EvEnter, Thread: 2, Count: -7}, {Kind: api.EvEnter, Thread: 2, Read: true, Count: 9}}, pass(1, 2))
}

// By1: threads without a place are of the node -1, with one another, and with those whose place says so.
func TestNowhere(t *testing.T) {
	events := []api.Event{in(0), in(1), in(5), in(-3), in(api.MaxInt), in(api.MinInt)}
	wantFrom(t, []int{0, -1}, 7, -1, 6, events, pass(5, 1))
	wantFrom(t, []int{0, -1}, 1, -1, 6, events, pass(4, 1))
	wantFrom(t, []int{0, -1}, 5, -1, 6, events, pass(4, 1))
	wantFrom(t, []int{0, -1}, 0, -1, 6, events, pass(0, 5))
	wantFrom(t, nil, 0, -1, 6, events, pass(5, 0))
	wantFrom(t, nil, 9, -1, 6, events, pass(6, 0))
	// nodes may be any numbers, and only whether they are the same counts
	wantFrom(t, []int{api.MaxInt, api.MinInt, api.MaxInt}, 0, -1, 3, []api.Event{in(0), in(1), in(2)}, pass(1, 1))
	// threads of another number are others, even those of the node's number
	wantFrom(t, []int{1, 1}, 0, -1, 1, []api.Event{in(1)}, pass(1, 0))
}

// By1: of each stay from its Ask to its Enter, in the order in which they were asked for.
func TestStays(t *testing.T) {
	nodes := []int{0, 0, 1, 1}
	// whoever has not entered waits to the end
	wantOf(t, nodes, []api.Event{ask(0)}, pass(0, 0))
	wantOf(t, nodes, []api.Event{ask(0), ask(1), in(1)}, pass(1, 0), pass(0, 0))
	wantOf(t, nodes, []api.Event{ask(0), ask(2), in(2), out(2), rest(2), ask(2), in(2)}, pass(0, 2), pass(0, 0), pass(0, 0))
	// what comes ahead of the asking, and behind the entering, is no pass
	wantOf(t, nodes, []api.Event{in(1), ask(0), in(0), in(1), in(2)}, pass(0, 0))
	wantOf(t, nodes, []api.Event{in(1), in(2), ask(0), in(3), in(0), in(1), in(2)}, pass(0, 1))
	// a thread's later stay counts anew, and its own entries ahead are none of it
	wantOf(t, nodes, []api.Event{ask(0), in(1), in(0), out(0), in(1), rest(0), in(1), ask(0), in(1), in(2), in(0)}, pass(1, 0), pass(1, 1))
	// an Ask within a stay begins none
	wantOf(t, nodes, []api.Event{ask(0), in(1), ask(0), in(2), in(0), ask(0), in(3)}, pass(1, 1))
	// entries that are no stay's are passes, too: thread 1 enters three times, and asked once
	wantOf(t, nodes, []api.Event{ask(0), ask(1), in(1), in(1), in(1), in(0)}, pass(3, 0), pass(0, 0))
	// a thread's entry out of turn ends no wait of its next stay
	wantOf(t, nodes, []api.Event{ask(0), in(0), in(0), out(0), rest(0), in(0), ask(0), in(3), in(0)}, pass(0, 0), pass(0, 1))
	// readers wait and pass as others do
	wantOf(t, nodes, []api.Event{{Kind: api.EvAsk, Read: true}, {Kind: api.EvAsk, Thread: 1}, {Kind: api.EvEnter, Thread: 3, Read: true}, {Kind: api.EvEnter, Thread: 1, Read: true}, {Kind: api.EvEnter}}, pass(1, 1), pass(0, 1))
}

// By1: the greatest of each, wherever they stand, of one pass or of two.
func TestWorst(t *testing.T) {
	wantWorst(t, []api.Pass{pass(2, 3)}, pass(2, 3))
	wantWorst(t, []api.Pass{pass(2, 3), pass(4, 1)}, pass(4, 3))
	wantWorst(t, []api.Pass{pass(0, 1), pass(9, 0), pass(0, 8), pass(1, 1)}, pass(9, 8))
	wantWorst(t, []api.Pass{pass(0, 0), pass(0, 0)}, pass(0, 0))
	wantWorst(t, []api.Pass{pass(-3, -5), pass(-4, -2)}, pass(-3, -2))
	for _, one := range strange {
		for _, other := range strange {
			wantWorst(t, []api.Pass{pass(one, other)}, pass(one, other))
			wantWorst(t, []api.Pass{pass(one, other), pass(other, one)}, pass(max(one, other), max(one, other)))
			wantWorst(t, []api.Pass{pass(api.MinInt, one), pass(other, api.MinInt), pass(api.MinInt, api.MinInt)}, pass(other, one))
		}
	}
}

// shortTraces are all traces of just so many events of four kinds, of three threads, the last of which has no place.
func shortTraces(long int) [][]api.Event {
	all := [][]api.Event{nil}
	for range long {
		var longer [][]api.Event
		for _, row := range all {
			for thread := range 3 {
				for _, kind := range []int{api.EvAsk, api.EvEnter, api.EvExit, api.EvRest} {
					longer = append(longer, append(slices.Clone(row), api.Event{Kind: kind, Thread: thread, Count: 1}))
				}
			}
		}
		all = longer
	}
	return all
}

// By1: all short traces.
func TestShort(t *testing.T) {
	for long := range 5 {
		for _, events := range shortTraces(long) {
			for _, nodes := range [][]int{nil, {0, 0}, {0, 1}, {-1, 2}} {
				wantSame(t, nodes, events)
			}
		}
	}
	for long := range 4 {
		for _, events := range shortTraces(long) {
			for from := -2; from <= long+1; from++ {
				for to := -2; to <= long+1; to++ {
					for thread := range 4 {
						nodes := []int{0, long % 2}
						wantFrom(t, nodes, thread, from, to, events, plainFrom(nodes, thread, from, to, events))
					}
				}
			}
		}
	}
}

// By1: longer traces, whether an automaton takes them or not.
func TestLonger(t *testing.T) {
	x := lcg(7)
	for i := range 4000 {
		threads := 1 + i%6
		nodes := drawnNodes(&x, threads)
		for _, events := range [][]api.Event{drawn(&x, i%80, threads), legal(&x, i%80, threads)} {
			wantSame(t, nodes, events)
			thread, from, to := x.next(threads+2)-1, x.next(90)-5, x.next(90)-5
			wantFrom(t, nodes, thread, from, to, events, plainFrom(nodes, thread, from, to, events))
		}
	}
}

// By1: threads, nodes and kinds of all sorts.
func TestStrange(t *testing.T) {
	for _, thread := range strange {
		for _, other := range strange {
			events := []api.Event{ask(thread), ask(other), in(other), in(0), in(thread), out(other), rest(other), ask(other), in(thread)}
			wantSame(t, strange, events)
			wantSame(t, []int{thread, other, thread}, events)
			for _, kind := range strange {
				e := api.Event{Kind: kind, Thread: other, Count: other}
				wantSame(t, []int{other, 0, thread}, []api.Event{ask(thread), e, ask(2), e, in(thread), e})
			}
		}
	}
}

// By2: who asks behind another one, and enters ahead of it, passes it.
func TestPasses(t *testing.T) {
	x := lcg(13)
	passed := 0
	for i := range 4000 {
		threads := 2 + i%4
		nodes, events := drawnNodes(&x, threads), legal(&x, 60, threads)
		stays, passes := tally.Of(events...), Of(nodes, events...)
		if len(stays) != len(passes) {
			t.Fatalf("%v: %d stays, and %d of passes", events, len(stays), len(passes))
		}
		for k, s := range stays {
			later := passersBehind(nodes, stays, s)
			if passes[k].Same < later.Same || passes[k].Other < later.Other {
				t.Fatalf("%v: %v is passed %v; want %v at least", events, s, passes[k], later)
			}
			passed += later.Same + later.Other
		}
	}
	if passed < 1000 {
		t.Errorf("only %d pass", passed)
	}
}

// passersBehind are the stays that asked behind a stay, and entered ahead of it.
func passersBehind(nodes []int, stays []api.Stay, s api.Stay) api.Pass {
	var p api.Pass
	for _, other := range stays {
		if other.Ask <= s.Ask || other.Enter == -1 || s.Enter != -1 && other.Enter > s.Enter {
			continue
		}
		if tenure.Node(nodes, other.Thread) == tenure.Node(nodes, s.Thread) {
			p.Same++
		} else {
			p.Other++
		}
	}
	return p
}

// By2: in a trace in which all enter as they asked nobody is passed by who asked later: all who enter ahead had asked before.
func TestFifo(t *testing.T) {
	x := lcg(17)
	waits := 0
	for i := range 6000 {
		nodes := drawnNodes(&x, 4)
		events := inTurn(&x, i%60)
		if !tally.Fifo(events...) {
			t.Fatalf("%v: not all enter as they asked", events)
		}
		for k, s := range tally.Of(events...) {
			var before api.Pass
			for _, at := range waitingAhead(events, s) {
				p := plainFrom(nodes, s.Thread, at-1, at+1, events)
				before = pass(before.Same+p.Same, before.Other+p.Other)
			}
			if got := Of(nodes, events...)[k]; got != before {
				t.Fatalf("%v: %v is passed %v; want %v", events, s, got, before)
			}
			waits += before.Same + before.Other
		}
	}
	if waits < 1000 {
		t.Errorf("only %d entries are waited for", waits)
	}
}

// inTurn is a legal trace in which all enter as they asked.
func inTurn(x *lcg, long int) []api.Event {
	l := auto.New(4)
	var events []api.Event
	var row []int
	for range long {
		e := api.Event{Kind: 1 + x.next(4), Thread: x.next(4), Count: 1}
		if e.Kind == api.EvEnter && (len(row) == 0 || row[0] != e.Thread) || l.Do(e) != api.OK {
			continue
		}
		switch e.Kind {
		case api.EvAsk:
			row = append(row, e.Thread)
		case api.EvEnter:
			row = row[1:]
		}
		events = append(events, e)
	}
	return events
}

// waitingAhead are the places of the entries of those who asked ahead of a stay, and entered while it waited.
func waitingAhead(events []api.Event, s api.Stay) []int {
	var places []int
	for _, other := range tally.Of(events...) {
		if other.Ask < s.Ask && other.Enter > s.Ask && (s.Enter == -1 || other.Enter < s.Enter) {
			places = append(places, other.Enter)
		}
	}
	return places
}

// By2: from place to place passes add up.
func TestAddUp(t *testing.T) {
	x := lcg(19)
	for i := range 3000 {
		nodes, events := drawnNodes(&x, 5), drawn(&x, i%50, 5)
		thread := x.next(7) - 1
		from := x.next(60) - 5
		by := from + 1 + x.next(20)
		to := by + x.next(20)
		// the places above from and below by, and those above the one ahead of by, and below to, are all that are above from and below to
		one, other := From(nodes, thread, from, by, events...), From(nodes, thread, by-1, to, events...)
		wantFrom(t, nodes, thread, from, to, events, pass(one.Same+other.Same, one.Other+other.Other))
		var sum api.Pass
		for at := from + 1; at < to; at++ {
			p := From(nodes, thread, at-1, at+1, events...)
			sum = pass(sum.Same+p.Same, sum.Other+p.Other)
		}
		wantFrom(t, nodes, thread, from, to, events, sum)
	}
}

// R3 and R4: what is handed in is not changed, and what is answered is new, and the same each time.
func TestNewMemory(t *testing.T) {
	x := lcg(5)
	nodes, events := []int{0, 1, 0, 1, 2}, drawn(&x, 80, 5)
	keptNodes, keptEvents := slices.Clone(nodes), slices.Clone(events)
	for range 3 {
		wantSame(t, nodes, events)
		l := Of(nodes, events...)
		kept := slices.Clone(l)
		Worst(l...)
		From(nodes, 2, 3, 70, events...)
		if !slices.Equal(l, kept) {
			t.Fatalf("the passes are %v; want %v", l, kept)
		}
		for i := range l {
			l[i] = pass(-9, -9)
		}
		if !slices.Equal(nodes, keptNodes) || !slices.Equal(events, keptEvents) {
			t.Fatal("what was handed in was changed")
		}
	}
	l := Of(nodes, events...)
	was := slices.Clone(l)
	clear(nodes)
	clear(events) // what was answered keeps nothing of it
	if !slices.Equal(l, was) {
		t.Error("an answer shares memory with what was handed in")
	}
}

// R1: calls end, of long traces, too: of as many stays, threads and entries as there are events.
func TestEnds(t *testing.T) {
	const long = 1 << 17
	done := make(chan bool)
	go func() {
		defer close(done)
		events := make([]api.Event, 2*long)
		want := make([]api.Pass, long)
		for i := range long {
			events[i], events[2*long-1-i] = ask(i), in(i) // the last one that asks is the first one to enter
			want[i] = pass(long-1-i, 0)
		}
		wantOf(t, nil, events, want...)
		wantWorst(t, want, pass(long-1, 0))
		wantOf(t, []int{0}, events, append([]api.Pass{pass(0, long-1)}, want[1:]...)...)
		wantFrom(t, []int{0}, 0, api.MinInt, api.MaxInt, events, pass(0, long-1))
		wantOf(t, nil, make([]api.Event, long))
	}()
	select {
	case <-done:
	case <-time.After(time.Minute):
		t.Fatal("a call does not end")
	}
}
