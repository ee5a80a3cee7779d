package tally

import (
	"kissgate/api"
	"kissgate/shared"
	"slices"
	"testing"
	"time"
)

// plain are the stays in the chapter's words: from each EvAsk on the thread's next events are looked for, one behind the other.
func plain(events []api.Event) []api.Stay {
	var stays []api.Stay
	for at, e := range events {
		under := slices.ContainsFunc(stays, func(s api.Stay) bool {
			return s.Thread == e.Thread && (s.Rest == -1 || s.Rest > at)
		})
		if e.Kind != 1 || under {
			continue
		}
		s := api.Stay{Thread: e.Thread, Read: e.Read, Ask: at}
		s.Enter = plainNext(events, 2, e.Thread, s.Ask)
		s.Exit = plainNext(events, 3, e.Thread, s.Enter)
		s.Rest = plainNext(events, 4, e.Thread, s.Exit)
		if s.Enter != -1 {
			s.Count = events[s.Enter].Count
		}
		stays = append(stays, s)
	}
	return stays
}

// plainNext is the place of a thread's next event of a kind behind a place; behind none there is none.
func plainNext(events []api.Event, kind, thread, behind int) int {
	if behind == -1 {
		return -1
	}
	for at := behind + 1; at < len(events); at++ {
		if events[at].Kind == kind && events[at].Thread == thread {
			return at
		}
	}
	return -1
}

// plainEntries are the threads of the EvEnters that are some stay's.
func plainEntries(events []api.Event) []int {
	var threads []int
	for at, e := range events {
		if slices.ContainsFunc(plain(events), func(s api.Stay) bool { return s.Enter == at }) {
			threads = append(threads, e.Thread)
		}
	}
	return threads
}

func plainLongest(events []api.Event) int {
	waits := []int{0}
	for _, s := range plain(events) {
		if s.Enter == -1 {
			waits = append(waits, len(events)-s.Ask)
		} else {
			waits = append(waits, s.Enter-s.Ask)
		}
	}
	return slices.Max(waits)
}

// plainFifo looks at every two stays.
func plainFifo(events []api.Event) bool {
	for _, one := range plain(events) {
		for _, other := range plain(events) {
			later := one.Ask > other.Ask
			if later && one.Enter != -1 && (other.Enter == -1 || one.Enter < other.Enter) {
				return false
			}
		}
	}
	return true
}

func plainMany(events []api.Event) [4]int {
	var many [4]int
	for _, s := range plain(events) {
		many[0]++
		if s.Enter >= 0 {
			many[1]++
		}
		if s.Exit >= 0 {
			many[2]++
		}
		if s.Rest >= 0 {
			many[3]++
		}
	}
	return many
}

// strange are numbers of all sorts.
var strange = []int{0, 1, -1, 2, -2, 3, 4, 5, 6, 31, 32, 33, 1 << 32, 1<<32 + 1, api.MaxInt, api.MaxInt - 1, api.MinInt, api.MinInt + 1}

// ev is an event of a writer.
func ev(kind, thread int) api.Event {
	return api.Event{Kind: kind, Thread: thread}
}

// evs are a thread's events of some kinds.
func evs(thread int, kinds ...int) []api.Event {
	var events []api.Event
	for _, kind := range kinds {
		events = append(events, ev(kind, thread))
	}
	return events
}

// mixed are events by two numbers each: a kind, and a thread.
func mixed(numbers ...int) []api.Event {
	var events []api.Event
	for i := 0; i < len(numbers); i += 2 {
		events = append(events, ev(numbers[i], numbers[i+1]))
	}
	return events
}

// traces are all traces of just so many events of some threads, by the events that may matter.
func traces(long, threads int) [][]api.Event {
	all := [][]api.Event{nil}
	for range long {
		var longer [][]api.Event
		for _, trace := range all {
			for thread := range threads {
				for kind := api.EvAsk; kind <= api.EvRest; kind++ {
					longer = append(longer, append(slices.Clone(trace), ev(kind, thread)))
				}
			}
		}
		all = longer
	}
	return all
}

// few is the beginning of a trace, so that what a test says is not too long.
func few(events []api.Event) []api.Event {
	return events[:min(len(events), 20)]
}

func wantOf(t *testing.T, events []api.Event, want ...api.Stay) {
	t.Helper()
	if got := Of(events...); !slices.Equal(got, want) {
		t.Errorf("Of(%v): %v; want %v", few(events), got, want)
	}
}

func wantEntries(t *testing.T, events []api.Event, want ...int) {
	t.Helper()
	if got := Entries(events...); !slices.Equal(got, want) {
		t.Errorf("Entries(%v): %v; want %v", few(events), got, want)
	}
}

func wantLongest(t *testing.T, events []api.Event, want int) {
	t.Helper()
	if got := Longest(events...); got != want {
		t.Errorf("Longest(%v): %d; want %d", few(events), got, want)
	}
}

func wantFifo(t *testing.T, events []api.Event, want bool) {
	t.Helper()
	if got := Fifo(events...); got != want {
		t.Errorf("Fifo(%v): %v; want %v", few(events), got, want)
	}
}

func wantMany(t *testing.T, events []api.Event, want [4]int) {
	t.Helper()
	if got := Many(events...); got != want {
		t.Errorf("Many(%v): %v; want %v", few(events), got, want)
	}
}

// wantSame holds all that is told of a trace against the plain words.
func wantSame(t *testing.T, events []api.Event) {
	t.Helper()
	wantOf(t, events, plain(events)...)
	wantEntries(t, events, plainEntries(events)...)
	wantLongest(t, events, plainLongest(events))
	wantFifo(t, events, plainFifo(events))
	wantMany(t, events, plainMany(events))
}

// lcg draws the same numbers in each run.
type lcg uint32

func (x *lcg) next(below int) int {
	*x = *x*1664525 + 1013904223
	return int(*x>>8) % below
}

// drawn is a trace of any kinds of events, of readers and writers.
func drawn(x *lcg, long, threads int) []api.Event {
	events := make([]api.Event, long)
	for i := range events {
		events[i] = api.Event{Kind: x.next(8) - 1, Thread: x.next(threads) - 1, Read: x.next(2) == 0, Count: x.next(5)}
	}
	return events
}

// Ta1, the example of the chapter: Ask, Enter, Exit, Rest of one thread are one stay, 0 to 3.
func TestExample(t *testing.T) {
	events := evs(0, api.EvAsk, api.EvEnter, api.EvExit, api.EvRest)
	wantOf(t, events, api.Stay{Ask: 0, Enter: 1, Exit: 2, Rest: 3})
	wantEntries(t, events, 0)
	wantLongest(t, events, 1)
	wantFifo(t, events, true)
	wantMany(t, events, [4]int{1, 1, 1, 1})
}

// Ta1 and Ta2: of no events there are no stays; nil and empty lists are the same.
func TestNone(t *testing.T) {
	for _, events := range [][]api.Event{nil, {}, {{}}, evs(0, api.EvNone, api.EvBad), evs(3, api.EvEnter, api.EvExit, api.EvRest), evs(0, 6, -1, 100)} {
		wantOf(t, events)
		wantEntries(t, events)
		wantLongest(t, events, 0)
		wantFifo(t, events, true)
		wantMany(t, events, [4]int{})
	}
}

// Ta1: a stay that is under way lacks the places of the events that have not come.
func TestUnderWay(t *testing.T) {
	wantOf(t, evs(2, api.EvAsk), api.Stay{Thread: 2, Ask: 0, Enter: -1, Exit: -1, Rest: -1})
	wantOf(t, evs(2, api.EvAsk, api.EvEnter), api.Stay{Thread: 2, Ask: 0, Enter: 1, Exit: -1, Rest: -1})
	wantOf(t, evs(2, api.EvAsk, api.EvEnter, api.EvExit), api.Stay{Thread: 2, Ask: 0, Enter: 1, Exit: 2, Rest: -1})
}

// Ta1: which events are a stay's, and which are nobody's.
func TestNobodys(t *testing.T) {
	for _, x := range []struct {
		kinds []int
		want  []api.Stay
	}{
		// one that asks again while its stay is under way begins none
		{[]int{1, 1, 2, 1, 3, 1, 4}, []api.Stay{{Ask: 0, Enter: 2, Exit: 4, Rest: 6}}},
		// one behind the other
		{[]int{1, 2, 3, 4, 1, 2, 3, 4, 1}, []api.Stay{{Ask: 0, Enter: 1, Exit: 2, Rest: 3}, {Ask: 4, Enter: 5, Exit: 6, Rest: 7}, {Ask: 8, Enter: -1, Exit: -1, Rest: -1}}},
		// ahead of its turn an event is nobody's
		{[]int{2, 3, 4, 1, 3, 4, 2, 4, 3, 4}, []api.Stay{{Ask: 3, Enter: 6, Exit: 8, Rest: 9}}},
		{[]int{1, 4, 3, 2}, []api.Stay{{Ask: 0, Enter: 3, Exit: -1, Rest: -1}}},
		{[]int{1, 4, 1, 2}, []api.Stay{{Ask: 0, Enter: 3, Exit: -1, Rest: -1}}},
		{[]int{1, 2, 4, 1, 3}, []api.Stay{{Ask: 0, Enter: 1, Exit: 4, Rest: -1}}},
		// the second one of a kind is nobody's
		{[]int{1, 2, 2, 3, 2, 3, 4, 2, 3, 4}, []api.Stay{{Ask: 0, Enter: 1, Exit: 3, Rest: 6}}},
		// what is no kind of a stay's is nobody's
		{[]int{0, 5, 1, 0, 5, 6, -1, 2, 0, 5, 3, 5, 0, 4, 5}, []api.Stay{{Ask: 2, Enter: 7, Exit: 10, Rest: 13}}},
	} {
		wantOf(t, evs(0, x.kinds...), x.want...)
		for _, thread := range strange {
			var want []api.Stay
			for _, s := range x.want {
				s.Thread = thread
				want = append(want, s)
			}
			wantOf(t, evs(thread, x.kinds...), want...)
		}
	}
}

// Ta1: whether it reads is said by the EvAsk alone, and the count by the EvEnter that is its own alone.
func TestReadAndCount(t *testing.T) {
	wantOf(t, []api.Event{
		{Kind: api.EvAsk, Read: true, Count: 9},
		{Kind: api.EvAsk, Thread: 1, Count: 8},
		{Kind: api.EvAsk, Count: 7},
		{Kind: api.EvEnter, Count: 3},
		{Kind: api.EvEnter, Read: true, Count: 4},
		{Kind: api.EvEnter, Thread: 1, Read: true, Count: -5},
		{Kind: api.EvExit, Count: 6},
		{Kind: api.EvEnter, Count: 2},
		{Kind: api.EvRest, Count: 1},
		{Kind: api.EvAsk, Count: 11},
		{Kind: api.EvExit, Thread: 1, Read: true, Count: 12},
	},
		api.Stay{Thread: 0, Read: true, Ask: 0, Enter: 3, Exit: 6, Rest: 8, Count: 3},
		api.Stay{Thread: 1, Read: false, Ask: 1, Enter: 5, Exit: 10, Rest: -1, Count: -5},
		api.Stay{Thread: 0, Read: false, Ask: 9, Enter: -1, Exit: -1, Rest: -1},
	)
}

// Ta1: stays are told by the places of their EvAsks, whoever they are of, and entries by their own.
func TestOrder(t *testing.T) {
	events := mixed(1, 7, 1, 3, 1, 5, 2, 5, 2, 9, 3, 5, 4, 5, 1, 5, 2, 3, 2, 3, 2, 5, 2, 7)
	wantOf(t, events,
		api.Stay{Thread: 7, Ask: 0, Enter: 11, Exit: -1, Rest: -1},
		api.Stay{Thread: 3, Ask: 1, Enter: 8, Exit: -1, Rest: -1},
		api.Stay{Thread: 5, Ask: 2, Enter: 3, Exit: 5, Rest: 6},
		api.Stay{Thread: 5, Ask: 7, Enter: 10, Exit: -1, Rest: -1},
	)
	wantEntries(t, events, 5, 3, 5, 7) // of 9, and the second one of 3, are nobody's
}

// Ta2: the longest wait, of whoever enters, and of whoever has not.
func TestLongest(t *testing.T) {
	wantLongest(t, evs(0, 1), 1)
	wantLongest(t, evs(0, 0, 0, 1), 1)
	wantLongest(t, evs(0, 1, 0, 0), 3)
	wantLongest(t, evs(0, 1, 0, 2, 0, 0, 0, 3, 0, 0, 0, 4), 2) // neither who is in nor who is going waits
	wantLongest(t, evs(0, 1, 0, 0, 2, 3, 4, 1, 2, 3, 4), 3)    // the first one
	wantLongest(t, evs(0, 1, 2, 3, 4, 1, 0, 0, 2, 3, 4), 3)    // the last one
	wantLongest(t, mixed(1, 0, 1, 1, 2, 1, 2, 0), 3)
	wantLongest(t, mixed(1, 0, 1, 1, 2, 0, 3, 0), 3) // who has not entered waits on
	wantLongest(t, mixed(1, 0, 0, 0, 0, 0, 2, 0, 1, 1), 3)
	wantLongest(t, mixed(1, 0, 0, 0, 0, 0, 2, 0, 1, 1, 0, 1, 0, 1, 0, 1), 4)
}

// Ta2: whether nobody enters ahead of who asked ahead of it.
func TestFifo(t *testing.T) {
	wantFifo(t, mixed(1, 0), true)
	wantFifo(t, mixed(1, 0, 1, 1), true)
	wantFifo(t, mixed(1, 0, 1, 1, 2, 0), true)
	wantFifo(t, mixed(1, 0, 1, 1, 2, 0, 2, 1), true)
	wantFifo(t, mixed(1, 0, 1, 1, 2, 1, 2, 0), false)
	wantFifo(t, mixed(1, 0, 1, 1, 2, 1), false) // that one has not entered
	wantFifo(t, mixed(1, 0, 2, 0, 1, 1, 2, 1), true)
	wantFifo(t, mixed(2, 1, 1, 0, 1, 1, 2, 0, 2, 1), true)                    // ahead of its EvAsk an EvEnter is nobody's
	wantFifo(t, mixed(1, 0, 2, 0, 3, 0, 4, 0, 1, 0), true)                    // one thread passes not itself
	wantFifo(t, mixed(1, 0, 1, 1, 1, 2, 2, 0, 2, 2), false)                   // the second one is passed
	wantFifo(t, mixed(1, 0, 1, 1, 1, 2, 2, 0, 2, 1), true)                    // the last one waits
	wantFifo(t, mixed(1, 0, 1, 1, 1, 2, 2, 1, 2, 2), false)                   // the first one waits
	wantFifo(t, mixed(1, 1, 1, 0, 2, 1, 3, 1, 4, 1, 1, 1, 2, 1, 2, 0), false) // by its second stay
	wantFifo(t, mixed(1, 1, 1, 0, 2, 1, 3, 1, 4, 1, 1, 1, 2, 0, 2, 1), true)
	reader := api.Event{Kind: api.EvAsk, Thread: 1, Read: true}
	wantFifo(t, []api.Event{ev(api.EvAsk, 0), reader, ev(api.EvEnter, 1)}, false) // readers are no others
}

// Ta2: how many stays have come how far.
func TestMany(t *testing.T) {
	wantMany(t, evs(0, 1), [4]int{1, 0, 0, 0})
	wantMany(t, evs(0, 1, 2), [4]int{1, 1, 0, 0})
	wantMany(t, evs(0, 1, 2, 3), [4]int{1, 1, 1, 0})
	wantMany(t, evs(0, 1, 2, 3, 4), [4]int{1, 1, 1, 1})
	wantMany(t, evs(0, 1, 2, 3, 4, 1, 2), [4]int{2, 2, 1, 1})
	wantMany(t, mixed(1, 0, 1, 1, 1, 2, 1, 3, 2, 3, 2, 1, 2, 0, 3, 3, 3, 0, 4, 0), [4]int{4, 3, 2, 1})
	wantMany(t, evs(0, 1, 1, 3, 4, 2, 2, 4, 3, 3, 4, 4, 0, 5), [4]int{1, 1, 1, 1})
}

// Ta1 and Ta2: all short traces against the chapter's words.
func TestShort(t *testing.T) {
	for long := range 8 {
		for _, trace := range traces(long, 1) {
			wantSame(t, trace)
		}
	}
	for long := range 6 {
		for _, trace := range traces(long, 2) {
			wantSame(t, trace)
		}
	}
	for long := range 5 {
		for _, trace := range traces(long, 3) {
			wantSame(t, trace)
		}
	}
}

// Ta1 and Ta2: longer traces of any kinds of events, counts, readers and writers.
func TestLonger(t *testing.T) {
	x := lcg(1)
	for i := range 3000 {
		wantSame(t, drawn(&x, i%70, 1+i%6))
	}
}

// Ta1 and Ta2: threads, kinds and counts of all sorts.
func TestStrange(t *testing.T) {
	for _, kind := range strange {
		for _, thread := range strange {
			for _, count := range strange {
				e := api.Event{Kind: kind, Thread: thread, Count: count, Read: kind%2 == 0}
				wantSame(t, []api.Event{e})
				wantSame(t, []api.Event{ev(api.EvAsk, thread), e, ev(api.EvAsk, 0), e, {Kind: api.EvEnter, Thread: thread, Count: count}, e, ev(api.EvExit, thread), e, ev(api.EvEnter, 0), ev(api.EvRest, thread), e})
			}
		}
	}
	var all []api.Event
	for kind := api.EvAsk; kind <= api.EvRest; kind++ {
		for _, thread := range strange {
			all = append(all, ev(kind, thread))
		}
	}
	wantSame(t, all)
	wantMany(t, all, [4]int{len(strange), len(strange), len(strange), len(strange)})
}

// Ta3: a stay's places rise, and a thread's stays do not overlap.
func TestPlaces(t *testing.T) {
	x := lcg(7)
	for i := range 500 {
		events := drawn(&x, 100, 1+i%5)
		free := map[int]int{} // from which place on a thread has no stay
		last := -1
		for _, s := range Of(events...) {
			if s.Ask <= last || s.Ask < free[s.Thread] {
				t.Fatalf("Of(%v): %v is too early", events, s)
			}
			last = s.Ask
			places := []int{s.Ask, s.Enter, s.Exit, s.Rest}
			if end := slices.Index(places, -1); end >= 0 {
				places, free[s.Thread] = append(places[:end], len(events)), len(events)
			} else {
				free[s.Thread] = s.Rest + 1
			}
			if !slices.IsSorted(places) || len(slices.Compact(slices.Clone(places))) != len(places) {
				t.Fatalf("Of(%v): the places of %v do not rise", events, s)
			}
		}
	}
}

// Ta3: of what an automaton takes each event but EvNone and EvBad is a stay's, of its kind and its thread.
func TestAllTaken(t *testing.T) {
	x := lcg(3)
	for i := range 300 {
		l := shared.New(1 + i%32)
		var taken []api.Event
		var places []int
		for _, e := range drawn(&x, 400, 2+i%32) {
			if l.Do(e) != api.OK {
				continue
			}
			if e.Kind != api.EvNone && e.Kind != api.EvBad {
				places = append(places, len(taken))
			}
			taken = append(taken, e)
		}
		var of []int
		for _, s := range Of(taken...) {
			for kind, at := range []int{s.Ask, s.Enter, s.Exit, s.Rest} {
				if at < 0 {
					continue
				}
				of = append(of, at)
				if e := taken[at]; e.Kind != kind+1 || e.Thread != s.Thread || e.Read != s.Read {
					t.Errorf("the stay %v has the event %v", s, e)
				}
			}
		}
		slices.Sort(of)
		if !slices.Equal(of, places) {
			t.Errorf("of %v the places %v are stays'; want %v", few(taken), of, places)
		}
		entered := slices.DeleteFunc(slices.Clone(taken), func(e api.Event) bool { return e.Kind != api.EvEnter })
		if got := Entries(taken...); len(got) != len(entered) {
			t.Errorf("%d entries; want %d", len(got), len(entered))
		}
	}
}

// R3 and R4: what is handed in is not changed, and what is answered is new, and the same each time.
func TestNewMemory(t *testing.T) {
	x := lcg(5)
	events := drawn(&x, 200, 4)
	kept := slices.Clone(events)
	for range 3 {
		wantSame(t, events)
		stays, entries := Of(events...), Entries(events...)
		for i := range stays {
			stays[i] = api.Stay{Thread: -9}
		}
		for i := range entries {
			entries[i] = -9
		}
		if !slices.Equal(events, kept) {
			t.Fatalf("events %v; want %v", events, kept)
		}
	}
	stays, entries := Of(events...), Entries(events...)
	wasStays, wasEntries := slices.Clone(stays), slices.Clone(entries)
	clear(events) // what was answered keeps nothing of it
	if !slices.Equal(stays, wasStays) || !slices.Equal(entries, wasEntries) {
		t.Error("an answer shares memory with what was handed in")
	}
}

// R1: calls end, of long traces, too, and of very many threads that stay under way.
func TestEnds(t *testing.T) {
	const long = 1 << 18
	done := make(chan bool)
	go func() {
		defer close(done)
		waiting, going := make([]api.Event, long), make([]api.Event, long)
		for i := range long {
			waiting[i] = ev(api.EvAsk, i)
			going[i] = ev(i%4+1, 31)
		}
		wantMany(t, waiting, [4]int{long, 0, 0, 0})
		wantMany(t, going, [4]int{long / 4, long / 4, long / 4, long / 4})
		wantLongest(t, waiting, long)
		wantLongest(t, going, 1)
		for _, trace := range [][]api.Event{waiting, going, make([]api.Event, long)} {
			wantFifo(t, trace, true)
			Entries(trace...)
		}
	}()
	select {
	case <-done:
	case <-time.After(time.Minute):
		t.Fatal("a call does not end")
	}
}
