package fair

import (
	"kissgate/api"
	"slices"
	"testing"
	"time"
)

// plainFair is Fair, window by window: each k picks that follow one another have each thread.
func plainFair(l []int, threads, k int) bool {
	if threads < 1 {
		return true
	}
	if k < 1 {
		return false
	}
	for from := 0; k <= len(l)-from; from++ {
		for thread := 0; thread < threads && thread < 32; thread++ {
			if !slices.Contains(l[from:from+k], thread) {
				return false
			}
		}
	}
	return true
}

// plainLeast is Least: the first k from 1 on by which the script is fair.
func plainLeast(l []int, threads int) int {
	k := 1
	for !plainFair(l, threads, k) {
		k++
	}
	return k
}

// plainRound is one round of threads, step by step from one thread to its neighbour.
func plainRound(threads, x int) []int {
	at, even := 0, true
	switch {
	case x >= 0:
		at, even = int(uint64(x)%uint64(threads)), x&1 == 0
	default: // -1 - x is none below 0, for any x: as many are ahead of the last thread
		at, even = threads-1-int(uint64(-1-x)%uint64(threads)), x&1 == 0
	}
	var out []int
	for len(out) < threads {
		out = append(out, at)
		switch {
		case even && at == threads-1:
			at = 0
		case even:
			at++
		case at == 0:
			at = threads - 1
		default:
			at--
		}
	}
	return out
}

// plainRounds is Rounds, round by round.
func plainRounds(threads int, how []int) []int {
	var out []int
	if threads < 1 {
		return nil
	}
	threads = min(threads, 32)
	for _, x := range how {
		if len(out)+threads <= 4000 {
			out = append(out, plainRound(threads, x)...)
		}
	}
	return out
}

// plainOwn is Own, pick by pick.
func plainOwn(l []int, thread, to int) int {
	often := 0
	for i, picked := range l {
		if i < to && picked == thread {
			often++
		}
	}
	return often
}

// scripts are all lists of at most so many numbers, each from -1 to most.
func scripts(long, most int) [][]int {
	all := [][]int{nil}
	for from := 0; from < len(all); from++ {
		if len(all[from]) == long {
			break
		}
		for x := -1; x <= most; x++ {
			all = append(all, append(slices.Clone(all[from]), x))
		}
	}
	return all
}

func wantFair(t *testing.T, l []int, threads, k int, want bool) {
	t.Helper()
	if got := Fair(l, threads, k); got != want {
		t.Errorf("Fair(%v, %d, %d): %v; want %v", short(l), threads, k, got, want)
	}
}

func wantLeast(t *testing.T, l []int, threads, want int) {
	t.Helper()
	if got := Least(l, threads); got != want {
		t.Errorf("Least(%v, %d): %d; want %d", short(l), threads, got, want)
	}
}

func wantOwn(t *testing.T, l []int, thread, to, want int) {
	t.Helper()
	if got := Own(l, thread, to); got != want {
		t.Errorf("Own(%v, %d, %d): %d; want %d", short(l), thread, to, got, want)
	}
}

func wantPicks(t *testing.T, call string, got, want []int) {
	t.Helper()
	if !slices.Equal(got, want) {
		t.Errorf("%s: %d picks, %v; want %d, %v", call, len(got), short(got), len(want), short(want))
	}
}

// short is a script as a message can show it.
func short(l []int) []int {
	return l[:min(len(l), 40)]
}

// strange are numbers of all sorts.
var strange = []int{0, 1, -1, 2, -2, 3, 31, 32, 33, -32, 4000, 4001, 1 << 32, 1<<32 + 1, api.MaxInt, api.MaxInt - 1, api.MinInt, api.MinInt + 1}

// Fa1, and the example of the chapter.
func TestExample(t *testing.T) {
	l := []int{0, 1, 1, 0}
	wantFair(t, l, 2, 3, true)
	wantFair(t, l, 2, 2, false)
	wantLeast(t, l, 2, 3)
	wantOwn(t, l, 1, 2, 1)
}

// Fa1: of all short scripts, of any threads and any k.
func TestFair(t *testing.T) {
	for _, l := range scripts(6, 2) {
		for threads := -1; threads <= 4; threads++ {
			for k := -1; k <= len(l)+2; k++ {
				wantFair(t, l, threads, k, plainFair(l, threads, k))
			}
			wantLeast(t, l, threads, plainLeast(l, threads))
		}
	}
}

// Fa1: a thread that lacks at the beginning, in the midst or at the end alone.
func TestFairWhere(t *testing.T) {
	wantLeast(t, []int{1, 1, 1, 0, 1, 0, 1, 0}, 2, 4)
	wantLeast(t, []int{0, 1, 0, 1, 1, 1, 0, 1}, 2, 4)
	wantLeast(t, []int{0, 1, 0, 1, 0, 1, 1, 1}, 2, 4)
	wantLeast(t, []int{0, 1, 2, 0, 1, 0, 1, 0, 1, 2}, 3, 7)
}

// Fa1: scripts that have fewer than k picks have no k that follow one another.
func TestFairShort(t *testing.T) {
	wantFair(t, nil, 2, 1, true)
	wantFair(t, []int{}, 32, 1, true)
	wantLeast(t, nil, 2, 1)
	wantFair(t, []int{0, 0}, 2, 2, false)
	wantFair(t, []int{0, 0}, 2, 3, true)
	wantLeast(t, []int{0, 0}, 2, 3)
	wantFair(t, []int{0, 0}, 2, api.MaxInt, true)
}

// Fa1: k below 1 is fair of no threads alone, and of them each k is.
func TestFairNone(t *testing.T) {
	for _, l := range [][]int{nil, {0}, {0, 1}, {-1}} {
		for _, k := range strange {
			wantFair(t, l, 0, k, true)
			wantFair(t, l, -1, k, true)
			wantFair(t, l, api.MinInt, k, true)
			if k < 1 {
				wantFair(t, l, 1, k, false)
				wantFair(t, l, api.MaxInt, k, false)
			}
		}
		wantLeast(t, l, 0, 1)
		wantLeast(t, l, -1, 1)
		wantLeast(t, l, api.MinInt, 1)
	}
}

// Fa1: of more than MaxThreads threads there are MaxThreads.
func TestFairMany(t *testing.T) {
	var l []int
	for i := range 200 {
		l = append(l, i%32)
	}
	for _, threads := range []int{32, 33, 1000, api.MaxInt} {
		wantFair(t, l, threads, 32, true)
		wantFair(t, l, threads, 31, false)
		wantLeast(t, l, threads, 32)
	}
	wantLeast(t, slices.DeleteFunc(slices.Clone(l), func(x int) bool { return x == 31 }), 32, 195)
	wantLeast(t, slices.DeleteFunc(slices.Clone(l), func(x int) bool { return x == 31 }), 31, 31)
}

// Fa1: Own counts the first picks alone, all of them if there are not so many.
func TestOwn(t *testing.T) {
	for _, l := range scripts(5, 2) {
		for thread := -2; thread <= 3; thread++ {
			for to := -1; to <= len(l)+2; to++ {
				wantOwn(t, l, thread, to, plainOwn(l, thread, to))
			}
			for _, to := range strange {
				wantOwn(t, l, thread, to, plainOwn(l, thread, to))
			}
		}
	}
	for _, thread := range strange {
		wantOwn(t, []int{thread, 7, thread, thread}, thread, 3, 2)
	}
}

// Fa2: Robin, of any threads and rounds.
func TestRobin(t *testing.T) {
	wantPicks(t, "Robin(3, 2)", Robin(3, 2), []int{0, 1, 2, 0, 1, 2})
	wantPicks(t, "Robin(1, 3)", Robin(1, 3), []int{0, 0, 0})
	for threads := -1; threads <= 34; threads++ {
		for rounds := -1; rounds <= 6; rounds++ {
			wantPicks(t, "Robin", Robin(threads, rounds), plainRounds(threads, make([]int, max(rounds, 0))))
		}
	}
	for _, threads := range strange {
		for _, rounds := range strange {
			wantPicks(t, "Robin", Robin(threads, rounds), plainRounds(threads, make([]int, min(max(rounds, 0), 5000))))
		}
	}
}

// Fa2: no round that would be more than MaxScript picks is begun, and one that is just as many is.
func TestRobinMost(t *testing.T) {
	for _, x := range []struct{ threads, rounds, picks int }{
		{1, 3999, 3999}, {1, 4000, 4000}, {1, 4001, 4000}, {2, 2000, 4000}, {2, 2001, 4000},
		{3, 1333, 3999}, {3, 1334, 3999}, {32, 125, 4000}, {32, 126, 4000}, {31, 129, 3999}, {31, 130, 3999},
		{7, 571, 3997}, {7, 572, 3997}, {40, 200, 4000}, {30, api.MaxInt, 3990},
	} {
		if got := Robin(x.threads, x.rounds); len(got) != x.picks {
			t.Errorf("Robin(%d, %d): %d picks; want %d", x.threads, x.rounds, len(got), x.picks)
		}
		if got := Rounds(x.threads, make([]int, min(x.rounds, 5000))...); len(got) != x.picks {
			t.Errorf("Rounds(%d, of %d): %d picks; want %d", x.threads, x.rounds, len(got), x.picks)
		}
	}
}

// Fa2: Rounds, of each number, and of some behind one another.
func TestRounds(t *testing.T) {
	wantPicks(t, "Rounds(3, 0)", Rounds(3, 0), []int{0, 1, 2})
	wantPicks(t, "Rounds(3, 1)", Rounds(3, 1), []int{1, 0, 2})
	wantPicks(t, "Rounds(3, 2)", Rounds(3, 2), []int{2, 0, 1})
	wantPicks(t, "Rounds(3, 3)", Rounds(3, 3), []int{0, 2, 1})
	wantPicks(t, "Rounds(3, -1)", Rounds(3, -1), []int{2, 1, 0})
	wantPicks(t, "Rounds(3, -2)", Rounds(3, -2), []int{1, 2, 0})
	wantPicks(t, "Rounds(2, 3, 2, 1)", Rounds(2, 3, 2, 1), []int{1, 0, 0, 1, 1, 0})
	wantPicks(t, "Rounds(3)", Rounds(3), nil)
	for threads := -1; threads <= 34; threads++ {
		for x := -70; x <= 70; x++ {
			wantPicks(t, "Rounds", Rounds(threads, x), plainRounds(threads, []int{x}))
			wantPicks(t, "Rounds", Rounds(threads, x, x+1, -x), plainRounds(threads, []int{x, x + 1, -x}))
		}
		wantPicks(t, "Rounds", Rounds(threads, strange...), plainRounds(threads, strange))
	}
	for _, threads := range strange {
		wantPicks(t, "Rounds", Rounds(threads, strange...), plainRounds(threads, strange))
	}
}

// Fa2: what is behind a round that is not begun is not begun, too.
func TestRoundsMost(t *testing.T) {
	var how []int
	for i := range 5000 {
		how = append(how, i*i-3*i)
	}
	for threads := range 34 {
		wantPicks(t, "Rounds", Rounds(threads, how...), plainRounds(threads, how))
	}
}

// Fa3: what is fair by k is fair by more.
func TestFairByMore(t *testing.T) {
	for _, l := range scripts(6, 2) {
		for threads := range 4 {
			fair := false
			for k := -1; k <= len(l)+3; k++ {
				if fair && !Fair(l, threads, k) {
					t.Errorf("%v of %d: fair by %d, and not by %d", l, threads, k-1, k)
				}
				fair = Fair(l, threads, k)
			}
			if !Fair(l, threads, api.MaxInt) {
				t.Errorf("%v of %d: not fair by most", l, threads)
			}
		}
	}
}

// Fa3: Robin is fair by how many threads there are, and Rounds by twice as many less one.
func TestRoundsFair(t *testing.T) {
	for threads := range 33 {
		for _, rounds := range []int{0, 1, 2, 5, api.MaxInt} {
			wantFair(t, Robin(threads, rounds), threads, threads, true)
		}
		for x := -40; x <= 40; x++ {
			for _, y := range []int{-3, 0, 1, 6, 31} {
				wantFair(t, Rounds(threads, x, y, x+y, x*y), threads, 2*threads-1, true)
			}
		}
	}
	wantLeast(t, Robin(5, 3), 5, 5)
	wantLeast(t, Rounds(3, 1, 0), 3, 4)
	wantLeast(t, Rounds(3, 0, 5), 3, 5) // 0 1 2, 2 1 0
}

// Fa3: among k times m picks of what is fair by k each thread is m times at least.
func TestFairOften(t *testing.T) {
	for threads := 1; threads <= 9; threads++ {
		l := Rounds(threads, 4, 1, 7, -3, 0, 12, 5, 5, 2, 9)
		k := Least(l, threads)
		for m := 0; k*m <= len(l); m++ {
			for thread := range threads {
				if got := Own(l, thread, k*m); got < m {
					t.Errorf("thread %d of %d: %d times among %d picks; want %d", thread, threads, got, k*m, m)
				}
			}
		}
	}
}

// R1: calls end, whatever they are given: numbers of threads and rounds as great as they may be, and long lists.
func TestEnds(t *testing.T) {
	done := make(chan bool)
	go func() {
		for _, threads := range strange {
			for _, x := range strange {
				Robin(threads, x)
				Own([]int{0, 1}, threads, x)
				Fair([]int{0, 1}, threads, x)
			}
			Rounds(threads, make([]int, 1<<20)...)
			Least(make([]int, 1<<20), threads)
		}
		close(done)
	}()
	select {
	case <-done:
	case <-time.After(time.Minute):
		t.Fatal("a call does not end")
	}
}

// R3: what is handed in is not changed, and what is answered is new memory.
func TestNewMemory(t *testing.T) {
	how := []int{1, 0, 3, -2}
	a := Rounds(3, how...)
	b := Rounds(3, how...)
	for i := range a {
		a[i] = 99
	}
	wantPicks(t, "the other answer", b, plainRounds(3, []int{1, 0, 3, -2}))
	wantPicks(t, "how", how, []int{1, 0, 3, -2})
	c := Robin(3, 2)
	c[0] = 99
	wantPicks(t, "Robin(3, 2)", Robin(3, 2), []int{0, 1, 2, 0, 1, 2})
	l := []int{2, 1, 0, 0}
	Fair(l, 3, 3)
	Least(l, 3)
	Own(l, 0, 3)
	wantPicks(t, "the script", l, []int{2, 1, 0, 0})
}
