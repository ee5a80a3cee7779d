package path

import (
	"kissgate/api"
	"kissgate/topo"
	"slices"
	"sync"
	"testing"
)

// tree is a topology of parents and threads.
func tree(parents []int, threads ...int) api.Topology {
	return api.Topology{Parents: parents, Threads: threads}
}

// star is a root with as many leaves below it.
func star(leaves int) []int {
	return append([]int{-1}, make([]int, leaves)...)
}

// laid is the table of a topology that may be.
func laid(t *testing.T, x api.Topology) *Table {
	t.Helper()
	table, err := New(x)
	if err != api.OK || table == nil {
		t.Fatalf("New(%v): %v, %d", x, table, err)
	}
	return table
}

// lists hands out all lists of numbers, up to a length.
func lists(from, to, most int, see func(l []int)) {
	var longer func(l []int)
	longer = func(l []int) {
		see(slices.Clone(l))
		for n := from; n <= to && len(l) < most; n++ {
			longer(append(slices.Clone(l), n))
		}
	}
	longer(nil)
}

// short hands out all topologies that may be, of six places and three threads at most.
func short(see func(x api.Topology)) {
	lists(-1, 4, 6, func(parents []int) {
		if topo.Check(tree(parents, 0)) == api.ErrTree {
			return
		}
		lists(0, 5, 3, func(threads []int) {
			if x := tree(parents, threads...); topo.Check(x) == api.OK {
				see(x)
			}
		})
	})
}

// strange are threads, and nodes, that no topology has.
var strange = []int{-1, -2, 32, 33, 1 << 32, -1 << 32, api.MaxInt, api.MinInt}

// plainNode, plainSlot and plainMates go through places and threads by the chapter's words.
func plainNode(x api.Topology, thread int) int {
	if thread < 0 || thread >= len(x.Threads) {
		return -1
	}
	node := 0
	for place := range x.Threads[thread] {
		if !slices.Contains(x.Parents, place) {
			node++
		}
	}
	return node
}

func plainSlot(x api.Topology, thread int) int {
	if thread < 0 || thread >= len(x.Threads) {
		return -1
	}
	slot := 0
	for other := 0; other < thread; other++ {
		if x.Threads[other] == x.Threads[thread] {
			slot++
		}
	}
	return slot
}

func plainMates(x api.Topology, node int) int {
	many := 0
	for thread := range x.Threads {
		if plainNode(x, thread) == node {
			many++
		}
	}
	return many
}

func plainUp(x api.Topology, thread int) []int {
	if thread < 0 || thread >= len(x.Threads) {
		return nil
	}
	out := []int{x.Threads[thread]}
	for out[len(out)-1] != 0 {
		out = append(out, x.Parents[out[len(out)-1]])
	}
	return out
}

// plainMeet are Meet and Far: whatever is above a, step by step, until it is above b.
func plainMeet(x api.Topology, a, b int) (int, int) {
	for far, place := range plainUp(x, a) {
		for _, other := range plainUp(x, b) {
			if place == other {
				return place, far
			}
		}
	}
	return -1, -1
}

// wantOne holds what is said of one thread, or of one node, against the chapter's words.
func wantOne(t *testing.T, table *Table, x api.Topology, n int) {
	t.Helper()
	if got, want := table.Node(n), plainNode(x, n); got != want {
		t.Errorf("%v: Node(%d): %d; want %d", x, n, got, want)
	}
	if got, want := table.Slot(n), plainSlot(x, n); got != want {
		t.Errorf("%v: Slot(%d): %d; want %d", x, n, got, want)
	}
	want := 0
	if n >= 0 {
		want = plainMates(x, n)
	}
	if got := table.Mates(n); got != want {
		t.Errorf("%v: Mates(%d): %d; want %d", x, n, got, want)
	}
	if got, want := table.Up(n), plainUp(x, n); !slices.Equal(got, want) {
		t.Errorf("%v: Up(%d): %v; want %v", x, n, got, want)
	}
}

func wantMeet(t *testing.T, table *Table, x api.Topology, a, b int) {
	t.Helper()
	meet, far := plainMeet(x, a, b)
	if got := table.Meet(a, b); got != meet {
		t.Errorf("%v: Meet(%d, %d): %d; want %d", x, a, b, got, meet)
	}
	if got := table.Far(a, b); got != far {
		t.Errorf("%v: Far(%d, %d): %d; want %d", x, a, b, got, far)
	}
}

// wantAll holds all that is said of a topology against the chapter's words.
func wantAll(t *testing.T, x api.Topology) {
	t.Helper()
	table := laid(t, x)
	if got := table.Topology(); !topo.Same(got, x) {
		t.Errorf("%v: Topology: %v", x, got)
	}
	if got, want := table.Nodes(), len(topo.Leaves(x)); got != want {
		t.Errorf("%v: Nodes: %d; want %d", x, got, want)
	}
	if got, want := table.Threads(), len(x.Threads); got != want {
		t.Errorf("%v: Threads: %d; want %d", x, got, want)
	}
	some := append([]int{len(x.Threads), len(x.Parents)}, strange...)
	for n := range max(len(x.Threads), len(x.Parents)) {
		some = append(some, n)
	}
	for _, a := range some {
		wantOne(t, table, x, a)
		for _, b := range some {
			wantMeet(t, table, x, a, b)
		}
	}
}

// Pa1, Pa2: all that is said of all short topologies, and of threads and nodes that there are not.
func TestShort(t *testing.T) {
	many := 0
	short(func(x api.Topology) {
		many++
		wantAll(t, x)
	})
	if many < 500 {
		t.Error("too few topologies", many)
	}
}

// Pa1, Pa2: the least, the widest, the deepest and the fullest topologies.
func TestEnds(t *testing.T) {
	full := make([]int, api.MaxThreads)
	for i := range full {
		full[i] = api.MaxNodes - 1 - i%7
	}
	for _, x := range []api.Topology{
		tree([]int{-1}, 0),
		tree([]int{-1}, make([]int, api.MaxThreads)...),
		tree(star(api.MaxNodes-1), full...),
		tree([]int{-1, 0, 1, 2, 3}, 4, 4),
		tree([]int{-1, 0, 0, 2, 1}, 4, 3, 4),
	} {
		wantAll(t, x)
	}
	for _, parts := range [][]int{{4, 4}, {2, 2, 2}, {2, 2, 2, 2}, {1, 2, 1, 3}} {
		x, _ := topo.Even(parts, 2)
		wantAll(t, x)
	}
}

// Pa1: nodes are counted as leaves rise, also those without a thread; slots by the threads' numbers.
func TestNodes(t *testing.T) {
	table := laid(t, tree([]int{-1, 0, 0, 2, 1, 1}, 5, 3, 5, 3, 5))
	if n := table.Nodes(); n != 3 {
		t.Error("nodes", n)
	}
	for thread, want := range [][2]int{{2, 0}, {0, 0}, {2, 1}, {0, 1}, {2, 2}, {-1, -1}} {
		if node, slot := table.Node(thread), table.Slot(thread); node != want[0] || slot != want[1] {
			t.Errorf("thread %d: node %d, slot %d; want %v", thread, node, slot, want)
		}
	}
	for node, want := range []int{2, 0, 3, 0, 0, 0} {
		if got := table.Mates(node); got != want {
			t.Errorf("Mates(%d): %d; want %d", node, got, want)
		}
	}
	if got := table.Mates(-1); got != 0 {
		t.Error("mates of no node", got)
	}
}

// Pa2: the chapter's example, and a tree of three levels.
func TestFar(t *testing.T) {
	two, _ := topo.Even([]int{2}, 2)
	table := laid(t, two)
	if a, b := table.Far(0, 1), table.Far(0, 2); a != 0 || b != 1 {
		t.Error(a, b)
	}
	table = laid(t, tree([]int{-1, 0, 0, 1, 1, 2}, 3, 4, 5))
	for _, x := range []struct{ a, b, meet, far int }{
		{0, 0, 3, 0}, {0, 1, 1, 1}, {1, 0, 1, 1}, {0, 2, 0, 2}, {2, 1, 0, 2}, {2, 2, 5, 0},
		{0, 3, -1, -1}, {3, 0, -1, -1}, {3, 3, -1, -1}, {-1, 0, -1, -1}, {0, -1, -1, -1}, {-1, -1, -1, -1},
	} {
		if meet, far := table.Meet(x.a, x.b), table.Far(x.a, x.b); meet != x.meet || far != x.far {
			t.Errorf("%v: meet %d, far %d", x, meet, far)
		}
	}
	if up := table.Up(1); !slices.Equal(up, []int{4, 1, 0}) {
		t.Error(up)
	}
}

// Pa1: what may not be has no table, and Check's error.
func TestWrong(t *testing.T) {
	for _, x := range []struct {
		t   api.Topology
		err api.Errno
	}{
		{api.Topology{}, api.ErrMany}, {tree([]int{-1}), api.ErrMany}, {tree(nil, 0), api.ErrMany}, {tree(star(32), 1), api.ErrMany},
		{tree([]int{-1}, make([]int, 33)...), api.ErrMany}, {tree([]int{0}, make([]int, 33)...), api.ErrMany}, {tree(make([]int, 1<<20), 1), api.ErrMany},
		{tree([]int{0}, 0), api.ErrTree}, {tree([]int{-1, 1}, 1), api.ErrTree}, {tree([]int{-1, 0, 0, 1}, 3), api.ErrTree},
		{tree([]int{-1, 0, 1, 2, 3, 4}, 5), api.ErrTree}, {tree([]int{-1, api.MaxInt}, 1), api.ErrTree}, {tree([]int{-1, -1}, 9), api.ErrTree},
		{tree([]int{-1, 0}, 0), api.ErrNone}, {tree([]int{-1}, -1), api.ErrNone}, {tree([]int{-1}, 0, api.MaxInt), api.ErrNone},
	} {
		if table, err := New(x.t); table != nil || err != x.err {
			t.Errorf("New(%v): %v, %d; want %d", x.t, table, err, x.err)
		}
	}
}

// Pa3: nil and a zero table have no nodes, no threads, and a zero topology.
func TestNone(t *testing.T) {
	for _, table := range []*Table{nil, {}} {
		if x := table.Topology(); x.Parents != nil || x.Threads != nil {
			t.Error("topology", x)
		}
		if table.Nodes() != 0 || table.Threads() != 0 {
			t.Error(table.Nodes(), table.Threads())
		}
		for _, a := range append([]int{0, 1}, strange...) {
			if table.Node(a) != -1 || table.Slot(a) != -1 || table.Mates(a) != 0 || table.Up(a) != nil {
				t.Error(a, table.Node(a), table.Slot(a), table.Mates(a), table.Up(a))
			}
			for _, b := range []int{a, 0, 1} {
				if table.Meet(a, b) != -1 || table.Far(a, b) != -1 {
					t.Error(a, b, table.Meet(a, b), table.Far(a, b))
				}
			}
		}
	}
}

// Pa4: Far is the same both ways, 0 of two of one leaf alone, and no way is longer than both others.
func TestFarWays(t *testing.T) {
	ways := func(x api.Topology) {
		table := laid(t, x)
		for a, at := range x.Threads {
			for b, other := range x.Threads {
				far := table.Far(a, b)
				if far != table.Far(b, a) || far < 0 || (far == 0) != (at == other) {
					t.Errorf("%v: Far(%d, %d): %d", x, a, b, far)
				}
				for c := range x.Threads {
					if far > max(table.Far(a, c), table.Far(c, b)) {
						t.Errorf("%v: %d is farther from %d than both from %d", x, a, b, c)
					}
				}
			}
		}
	}
	short(ways)
	for _, parts := range [][]int{{2, 2, 2}, {3, 2}, {2, 1, 2, 2}} {
		x, _ := topo.Even(parts, 1)
		ways(x)
	}
}

// R3: nothing handed in is changed or kept, and what is answered is new memory.
func TestMemory(t *testing.T) {
	x := tree([]int{-1, 0, 0}, 1, 2, 2)
	want := tree([]int{-1, 0, 0}, 1, 2, 2)
	table := laid(t, x)
	if !topo.Same(x, want) {
		t.Error("changed", x)
	}
	x.Parents[2], x.Threads[0] = 1, 2
	one := table.Topology()
	one.Parents[1], one.Threads[1] = 7, 7
	up := table.Up(0)
	up[0], up[1] = 7, 7
	_ = append(up[:1], 9)
	table.Up(1)[1] = 7
	wantSaid(t, table, want)
}

func wantSaid(t *testing.T, table *Table, want api.Topology) {
	t.Helper()
	if got := table.Topology(); !topo.Same(got, want) {
		t.Error("topology", got)
	}
	for n := range 4 {
		wantOne(t, table, want, n)
		for b := range 4 {
			wantMeet(t, table, want, n, b)
		}
	}
}

// R4: what is said hangs on the topology alone, whatever is asked first, and however often.
func TestOrder(t *testing.T) {
	x := tree([]int{-1, 0, 0, 1, 1, 2}, 3, 4, 5)
	for _, first := range []func(table *Table){
		func(table *Table) { table.Up(-1) },
		func(table *Table) { table.Up(2) },
		func(table *Table) { table.Meet(0, 9) },
		func(table *Table) { table.Far(9, 0) },
		func(table *Table) { table.Far(1, 2) },
		func(table *Table) { table.Topology().Parents[0] = 9 },
	} {
		table := laid(t, x)
		first(table)
		wantSaid(t, table, x)
		wantSaid(t, table, x)
	}
}

// Pa2: what is above the threads is found once, also when several ask first at the same time.
func TestOnce(t *testing.T) {
	x, _ := topo.Even([]int{2, 2}, 4)
	table := laid(t, x)
	var all sync.WaitGroup
	ups := make([][]int, len(x.Threads))
	for thread := range ups {
		all.Add(1)
		go func() {
			defer all.Done()
			ups[thread] = table.Up(thread)
		}()
	}
	all.Wait()
	for thread, up := range ups {
		if want := plainUp(x, thread); !slices.Equal(up, want) {
			t.Errorf("Up(%d): %v; want %v", thread, up, want)
		}
	}
	if len(table.above) != len(x.Threads) {
		t.Error("found more than once", len(table.above))
	}
}
