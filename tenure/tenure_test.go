package tenure

import (
	"kissgate/api"
	"slices"
	"testing"
	"time"
)

// plain are the tenures in the chapter's words: entry by entry, each of which begins one, goes on with the last one, or ends it all.
func plain(nodes []int, events []api.Event) ([]api.Run, bool) {
	var runs []api.Run
	var last api.Event
	place := 0
	for _, e := range events {
		if e.Kind != 2 {
			continue
		}
		goesOn := len(runs) > 0 && plainNode(nodes, e.Thread) == plainNode(nodes, last.Thread) && e.Count == last.Count+1
		switch {
		case e.Count == 1:
			runs = append(runs, api.Run{Node: plainNode(nodes, e.Thread), From: place, Many: 1})
		case goesOn:
			runs[len(runs)-1].Many++
		default:
			return runs, false
		}
		last = e
		place++
	}
	return runs, true
}

// plainNode looks for the thread's place among all places.
func plainNode(nodes []int, thread int) int {
	for place, node := range nodes {
		if place == thread {
			return node
		}
	}
	return -1
}

func plainLongest(l []api.Run) int {
	if len(l) == 0 {
		return 0
	}
	return slices.MaxFunc(l, func(a, b api.Run) int {
		if a.Many < b.Many {
			return -1
		}
		if a.Many > b.Many {
			return 1
		}
		return 0
	}).Many
}

// plainTurns is one less than how many stretches of one node there are.
func plainTurns(l []api.Run) int {
	stretches := slices.CompactFunc(slices.Clone(l), func(a, b api.Run) bool { return a.Node == b.Node })
	return max(len(stretches)-1, 0)
}

// strange are numbers of all sorts.
var strange = []int{0, 1, -1, 2, -2, 3, 4, 5, 31, 32, 33, 1 << 32, 1<<32 + 1, api.MaxInt, api.MaxInt - 1, api.MinInt, api.MinInt + 1}

// enter is an entry of a thread, of a count.
func enter(thread, count int) api.Event {
	return api.Event{Kind: api.EvEnter, Thread: thread, Count: count}
}

// entered are entries by two numbers each: a thread, and a count.
func entered(numbers ...int) []api.Event {
	var events []api.Event
	for i := 0; i < len(numbers); i += 2 {
		events = append(events, enter(numbers[i], numbers[i+1]))
	}
	return events
}

// rows are all traces of just so many entries of the threads -1 to 3, with the counts 0 to 4.
func rows(long int) [][]api.Event {
	all := [][]api.Event{nil}
	for range long {
		var longer [][]api.Event
		for _, row := range all {
			for thread := -1; thread < 4; thread++ {
				for count := range 5 {
					longer = append(longer, append(slices.Clone(row), enter(thread, count)))
				}
			}
		}
		all = longer
	}
	return all
}

// few is the beginning of a list, so that what a test says is not too long.
func few[T any](l []T) []T {
	return l[:min(len(l), 20)]
}

func wantOf(t *testing.T, nodes []int, events []api.Event, each bool, want ...api.Run) {
	t.Helper()
	if got, all := Of(nodes, events...); !slices.Equal(got, want) || all != each {
		t.Errorf("Of(%v, %v): %v, %v; want %v, %v", few(nodes), few(events), few(got), all, few(want), each)
	}
}

func wantNode(t *testing.T, nodes []int, thread, want int) {
	t.Helper()
	if got := Node(nodes, thread); got != want {
		t.Errorf("Node(%v, %d): %d; want %d", few(nodes), thread, got, want)
	}
}

func wantLongest(t *testing.T, l []api.Run, want int) {
	t.Helper()
	if got := Longest(l...); got != want {
		t.Errorf("Longest(%v): %d; want %d", few(l), got, want)
	}
}

func wantTurns(t *testing.T, l []api.Run, want int) {
	t.Helper()
	if got := Turns(l...); got != want {
		t.Errorf("Turns(%v): %d; want %d", few(l), got, want)
	}
}

// wantSame holds all that is told of a trace against the plain words.
func wantSame(t *testing.T, nodes []int, events []api.Event) {
	t.Helper()
	want, each := plain(nodes, events)
	wantOf(t, nodes, events, each, want...)
	wantLongest(t, want, plainLongest(want))
	wantTurns(t, want, plainTurns(want))
}

// runs are tenures by two numbers each: a node, and how many entries it has.
func runs(numbers ...int) []api.Run {
	var l []api.Run
	from := 0
	for i := 0; i < len(numbers); i += 2 {
		l = append(l, api.Run{Node: numbers[i], From: from, Many: numbers[i+1]})
		from += numbers[i+1]
	}
	return l
}

// lcg draws the same numbers in each run.
type lcg uint32

func (x *lcg) next(below int) int {
	*x = *x*1664525 + 1013904223
	return int(*x>>8) % below
}

// drawnNodes are the nodes of some threads, some of which are no node's number.
func drawnNodes(x *lcg, threads int) []int {
	nodes := make([]int, threads)
	for i := range nodes {
		nodes[i] = x.next(4) - 1
	}
	return nodes
}

// drawn is a trace that mostly goes on, or begins anew, with events of other kinds between its entries.
func drawn(x *lcg, long, threads int) []api.Event {
	events := make([]api.Event, long)
	count := 0
	for i := range events {
		e := api.Event{Kind: api.EvEnter, Thread: x.next(threads+2) - 1, Read: x.next(2) == 0}
		switch x.next(16) {
		case 0:
			count = x.next(6) - 1
		case 1, 2, 3, 4:
			count = 1
		case 5, 6, 7:
			e.Kind = []int{api.EvNone, api.EvAsk, api.EvExit, api.EvRest, api.EvBad, 6, -1}[x.next(7)]
			e.Count = x.next(4)
			events[i] = e
			continue
		default:
			count++
		}
		e.Count = count
		events[i] = e
	}
	return events
}

// Te1, the example of the chapter: the counts 1, 2, 1 of a node are tenures of 2 and 1.
func TestExample(t *testing.T) {
	nodes := []int{0, 0}
	l := []api.Run{{Node: 0, From: 0, Many: 2}, {Node: 0, From: 2, Many: 1}}
	wantOf(t, nodes, entered(0, 1, 1, 2, 0, 1), true, l...)
	wantLongest(t, l, 2)
	wantTurns(t, l, 0)
}

// Te1 and Te2: of no entries there are no tenures, and each is in one; nil and empty lists are the same.
func TestNone(t *testing.T) {
	for _, nodes := range [][]int{nil, {}, {0, 1}} {
		for _, events := range [][]api.Event{nil, {}, {{}}, {{Kind: api.EvAsk, Count: 2}, {Kind: api.EvExit, Count: 1}, {Kind: api.EvRest}, {Kind: api.EvBad, Count: 7}, {Kind: 6, Count: 1}, {Kind: -2, Count: 1}}} {
			wantOf(t, nodes, events, true)
		}
	}
	for _, l := range [][]api.Run{nil, {}} {
		wantLongest(t, l, 0)
		wantTurns(t, l, 0)
	}
}

// Te1: a thread's node is the number of its place; -1 without a place.
func TestNode(t *testing.T) {
	nodes := []int{4, 0, -7, api.MaxInt, api.MinInt, 4}
	for thread, want := range nodes {
		wantNode(t, nodes, thread, want)
	}
	for _, thread := range []int{-1, -2, 6, 7, 32, 1 << 32, api.MaxInt, api.MinInt} {
		wantNode(t, nodes, thread, -1)
	}
	for _, thread := range strange {
		wantNode(t, nil, thread, -1)
		wantNode(t, []int{}, thread, -1)
		wantNode(t, nodes, thread, plainNode(nodes, thread))
	}
	wantNode(t, make([]int, 2, 8), 2, -1) // what a list has room for has no places
}

// Te1: what goes on with a tenure, what begins one, and what neither does.
func TestGoesOn(t *testing.T) {
	nodes := []int{0, 0, 1, 1, 2}
	// one behind the other, by threads of a node, or by the same one
	wantOf(t, nodes, entered(0, 1, 1, 2, 1, 3, 0, 4), true, runs(0, 4)...)
	// the Count 1 begins one, whatever is ahead
	wantOf(t, nodes, entered(0, 1, 0, 1, 0, 1), true, runs(0, 1, 0, 1, 0, 1)...)
	wantOf(t, nodes, entered(0, 1, 0, 2, 2, 1, 3, 2, 3, 3, 1, 1, 4, 1), true, runs(0, 2, 1, 3, 0, 1, 2, 1)...)
	// another node does not go on
	wantOf(t, nodes, entered(0, 1, 1, 2, 2, 3), false, runs(0, 2)...)
	wantOf(t, nodes, entered(2, 1, 0, 2), false, runs(1, 1)...)
	// nor does it by the Count of its own last tenure
	wantOf(t, nodes, entered(0, 1, 1, 2, 2, 1, 0, 3), false, runs(0, 2, 1, 1)...)
	wantOf(t, nodes, entered(0, 1, 1, 2, 0, 1, 1, 3), false, runs(0, 2, 0, 1)...)
	// nor another Count than one more
	for _, count := range strange {
		switch count {
		case 1:
			wantOf(t, nodes, entered(0, 1, 1, 2, 0, 3, 0, count), true, runs(0, 3, 0, 1)...)
		case 4:
			wantOf(t, nodes, entered(0, 1, 1, 2, 0, 3, 0, count), true, runs(0, 4)...)
		default:
			wantOf(t, nodes, entered(0, 1, 1, 2, 0, 3, 0, count), false, runs(0, 3)...)
		}
	}
	// the first one must begin one
	for _, count := range strange {
		if count != 1 {
			wantOf(t, nodes, entered(0, count), false)
			wantOf(t, nodes, entered(0, count, 0, 1, 0, 2), false)
		}
	}
	// what is behind such an entry is not looked at
	wantOf(t, nodes, entered(0, 1, 0, 3, 0, 4, 0, 1, 0, 2), false, runs(0, 1)...)
	wantOf(t, nodes, entered(0, 1, 0, 3, 0, 2), false, runs(0, 1)...)
}

// Te1: entries are counted by EvEnters alone, whatever else stands between them, and whoever asked.
func TestOtherEvents(t *testing.T) {
	nodes := []int{0, 1}
	between := []api.Event{{Kind: api.EvNone, Count: 1}, {Kind: api.EvAsk, Thread: 1, Count: 1}, {Kind: api.EvExit, Count: 5}, {Kind: api.EvRest, Thread: 1, Count: 1}, {Kind: api.EvBad, Thread: 7, Count: 1}, {Kind: 6, Count: 1}, {Kind: -2, Count: 1}}
	var events []api.Event
	for _, e := range entered(1, 1, 1, 2, 0, 1, 1, 1, 1, 2, 1, 3) {
		events = append(append(events, between...), e)
	}
	want := []api.Run{{Node: 1, From: 0, Many: 2}, {Node: 0, From: 2, Many: 1}, {Node: 1, From: 3, Many: 3}}
	wantOf(t, nodes, events, true, want...)
	wantOf(t, nodes, append(events, between...), true, want...)
	for i := range events {
		events[i].Read = i%3 == 0 // readers enter, too
	}
	wantOf(t, nodes, events, true, want...)
}

// Te1: threads without a place are of the node -1, as are those whose place says so.
func TestNowhere(t *testing.T) {
	want := []api.Run{{Node: -1, From: 0, Many: 4}, {Node: 0, From: 4, Many: 1}}
	wantOf(t, []int{0, -1}, entered(5, 1, -3, 2, 1, 3, api.MaxInt, 4, 0, 1), true, want...)
	wantOf(t, nil, entered(0, 1, api.MinInt, 2, 31, 3), true, runs(-1, 3)...)
	wantOf(t, []int{0}, entered(0, 1, 1, 2), false, runs(0, 1)...)
	wantOf(t, []int{0}, entered(1, 1, 0, 2), false, runs(-1, 1)...)
	// nodes may be any numbers, and only whether they are the same counts
	wantOf(t, []int{api.MaxInt, api.MinInt, api.MaxInt}, entered(0, 1, 2, 2, 1, 1), true, runs(api.MaxInt, 2, api.MinInt, 1)...)
}

// Te2: the greatest Many, wherever it stands.
func TestLongest(t *testing.T) {
	wantLongest(t, runs(0, 1), 1)
	wantLongest(t, runs(0, 3, 1, 2, 2, 1), 3)
	wantLongest(t, runs(2, 1, 1, 3, 1, 2), 3)
	wantLongest(t, runs(2, 1, 1, 2, 9, 3), 3)
	wantLongest(t, []api.Run{{Node: 5, From: 9, Many: 0}}, 0)
	wantLongest(t, []api.Run{{Node: 5, From: 9, Many: -3}, {Node: 5, From: 9, Many: -4}}, -3)
	wantLongest(t, []api.Run{{Many: -4}, {Many: api.MinInt}, {Many: -3}}, -3)
	for _, many := range strange {
		wantLongest(t, []api.Run{{Node: 8, From: 7, Many: many}}, many)
		wantLongest(t, []api.Run{{Many: many}, {Many: api.MaxInt}, {Many: many}}, api.MaxInt)
		wantLongest(t, []api.Run{{Many: api.MinInt}, {Many: many}, {Many: api.MinInt}}, many)
	}
}

// Te2: how many have another Node than the one ahead, and nothing else.
func TestTurns(t *testing.T) {
	wantTurns(t, runs(0, 1), 0)
	wantTurns(t, runs(5, 1), 0)
	wantTurns(t, runs(0, 1, 0, 2, 0, 1), 0)
	wantTurns(t, runs(0, 1, 1, 1), 1)
	wantTurns(t, runs(0, 1, 1, 1, 0, 1), 2)
	wantTurns(t, runs(0, 1, 1, 1, 1, 1, 0, 1, 0, 2), 2)
	wantTurns(t, runs(-1, 1, 0, 1, -1, 1), 2)
	for _, one := range strange {
		for _, other := range strange {
			want := 0
			if one != other {
				want = 1
			}
			wantTurns(t, []api.Run{{Node: one}, {Node: other, From: 3, Many: 4}}, want)
			wantTurns(t, []api.Run{{Node: 7, From: one, Many: other}, {Node: 7, From: other, Many: one}}, 0)
		}
	}
}

// Te1 and Te2: all short traces against the chapter's words.
func TestShort(t *testing.T) {
	for long := range 4 {
		for _, row := range rows(long) {
			wantSame(t, []int{0, 0, 1}, row)
			wantSame(t, []int{1, -1, 1, 0}, row)
		}
	}
}

// Te1 and Te2: longer traces of any kinds of events, counts, readers and writers.
func TestLonger(t *testing.T) {
	x := lcg(1)
	for i := range 20000 {
		nodes := drawnNodes(&x, i%7)
		wantSame(t, nodes, drawn(&x, i%40, 1+i%8))
	}
}

// Te1: threads, nodes, kinds and counts of all sorts.
func TestStrange(t *testing.T) {
	for _, thread := range strange {
		for _, count := range strange {
			for _, kind := range strange {
				e := api.Event{Kind: kind, Thread: thread, Count: count, Read: kind%2 == 0}
				wantSame(t, strange, []api.Event{e})
				wantSame(t, strange, []api.Event{enter(thread, 1), e, enter(thread, 2), e, enter(0, 1), e, enter(thread, count)})
			}
		}
	}
}

// Te1: a tenure has just the entries that were put in it, however long it is.
func TestPutTogether(t *testing.T) {
	x := lcg(11)
	for i := range 300 {
		var events []api.Event
		var want []api.Run
		from := 0
		for range i % 20 {
			node, many := x.next(3), 1+x.next(30)
			want = append(want, api.Run{Node: node, From: from, Many: many})
			for count := 1; count <= many; count++ {
				events = append(events, api.Event{Kind: x.next(2), Thread: x.next(6), Count: 1}, enter(2*node+x.next(2), count))
			}
			from += many
		}
		wantOf(t, []int{0, 0, 1, 1, 2, 2}, events, true, want...)
		// any entry that has no Count of a tenure ends them there
		wantOf(t, []int{0, 0, 1, 1, 2, 2}, append(events, enter(0, 40), enter(0, 1)), false, want...)
	}
}

// Te3: if each entry is in a tenure, they follow one another without a gap, and have all entries.
func TestNoGap(t *testing.T) {
	x := lcg(3)
	whole := 0
	for i := range 5000 {
		nodes := drawnNodes(&x, 4)
		events := drawn(&x, i%12, 4)
		all := slices.DeleteFunc(slices.Clone(events), func(e api.Event) bool { return e.Kind != api.EvEnter })
		l, each := Of(nodes, events...)
		next := 0
		for _, r := range l {
			if r.From != next || r.Many < 1 || r.From+r.Many > len(all) {
				t.Fatalf("Of(%v, %v): %v is not at %d", nodes, events, r, next)
			}
			for i, e := range all[r.From : r.From+r.Many] {
				if e.Count != i+1 || Node(nodes, e.Thread) != r.Node {
					t.Fatalf("Of(%v, %v): the entry %v is not of %v", nodes, events, e, r)
				}
			}
			next += r.Many
		}
		if each != (next == len(all)) {
			t.Fatalf("Of(%v, %v): %v, %v, which has %d of %d entries", nodes, events, l, each, next, len(all))
		}
		if each && len(all) > 2 {
			whole++
		}
	}
	if whole < 100 {
		t.Errorf("only %d traces have each entry in a tenure", whole)
	}
}

// R3 and R4: what is handed in is not changed, and what is answered is new, and the same each time.
func TestNewMemory(t *testing.T) {
	x := lcg(5)
	nodes, events := []int{0, 1, 0, 1, 2}, entered(0, 1, 2, 2, 1, 1, 4, 1, 4, 2, 3, 1)
	events = append(events, drawn(&x, 60, 5)...)
	keptNodes, keptEvents := slices.Clone(nodes), slices.Clone(events)
	for range 3 {
		wantSame(t, nodes, events)
		l, _ := Of(nodes, events...)
		kept := slices.Clone(l)
		Longest(l...)
		Turns(l...)
		if !slices.Equal(l, kept) {
			t.Fatalf("the tenures are %v; want %v", l, kept)
		}
		for i := range l {
			l[i] = api.Run{Node: -9, From: -9, Many: -9}
		}
		if !slices.Equal(nodes, keptNodes) || !slices.Equal(events, keptEvents) {
			t.Fatal("what was handed in was changed")
		}
	}
	l, _ := Of(nodes, events...)
	was := slices.Clone(l)
	clear(nodes)
	clear(events) // what was answered keeps nothing of it
	if !slices.Equal(l, was) {
		t.Error("an answer shares memory with what was handed in")
	}
}

// R1: calls end, of long traces, too: of one tenure, of as many as entries, and of none.
func TestEnds(t *testing.T) {
	const long = 1 << 18
	done := make(chan bool)
	go func() {
		defer close(done)
		one, many := make([]api.Event, long), make([]api.Event, long)
		for i := range long {
			one[i], many[i] = enter(i%2, i+1), enter(i%2, 1)
		}
		wantOf(t, []int{6, 6}, one, true, api.Run{Node: 6, Many: long})
		l, each := Of([]int{6, 7}, many...)
		if len(l) != long || !each {
			t.Errorf("%d tenures, %v; want %d", len(l), each, long)
		}
		wantLongest(t, l, 1)
		wantTurns(t, l, long-1)
		wantOf(t, nil, make([]api.Event, long), true)
		wantOf(t, nil, one[1:], false)
	}()
	select {
	case <-done:
	case <-time.After(time.Minute):
		t.Fatal("a call does not end")
	}
}
