package topo

import (
	"kissgate/api"
	"slices"
	"strings"
	"testing"
)

// tree is a topology of parents and threads.
func tree(parents []int, threads ...int) api.Topology {
	return api.Topology{Parents: parents, Threads: threads}
}

// row are as many numbers n.
func row(many, n int) []int {
	return slices.Repeat([]int{n}, many)
}

// star is a root with as many leaves below it.
func star(leaves int) []int {
	return append([]int{-1}, row(leaves, 0)...)
}

// chain is as many places, each below the one ahead.
func chain(places int) []int {
	out := make([]int, places)
	for i := range out {
		out[i] = i - 1
	}
	return out
}

// lists hands out all lists of numbers, up to a length.
func lists(from, to, most int, see func(l []int)) {
	var longer func(l []int)
	longer = func(l []int) {
		see(slices.Clone(l))
		for n := from; n <= to && len(l) < most; n++ {
			longer(append(slices.Clone(l), n))
		}
	}
	longer(nil)
}

// way are the places from one up to the root, by the parents' words; false where it does not get there.
func way(parents []int, at int) ([]int, bool) {
	var out []int
	for at != -1 {
		if at < 0 || at >= len(parents) || len(out) > len(parents) {
			return nil, false
		}
		out = append(out, at)
		at = parents[at]
	}
	return out, out != nil && out[len(out)-1] == 0
}

// plainLeaves are the leaves of parents, by the chapter's words, and how deep they are; false if they are no tree.
func plainLeaves(parents []int) ([]int, int, bool) {
	if parents[0] != -1 {
		return nil, 0, false
	}
	for place, parent := range parents[1:] {
		if parent < 0 || parent > place { // place is one less than its number
			return nil, 0, false
		}
	}
	inner := map[int]int{}
	for _, parent := range parents {
		inner[parent]++
	}
	var leaves []int
	depth := 0
	for place := range parents {
		if inner[place] > 0 {
			continue
		}
		up, ok := way(parents, place)
		if !ok || depth > 0 && len(up) != depth || len(up) > api.MaxDepth {
			return nil, 0, false
		}
		depth = len(up)
		leaves = append(leaves, place)
	}
	return leaves, depth, true
}

// plain is what Check, Leaves and Depth should tell.
func plain(t api.Topology) (api.Errno, []int, int) {
	if len(t.Parents) == 0 || len(t.Parents) > api.MaxNodes || len(t.Threads) == 0 || len(t.Threads) > api.MaxThreads {
		return api.ErrMany, nil, 0
	}
	leaves, depth, ok := plainLeaves(t.Parents)
	if !ok {
		return api.ErrTree, nil, 0
	}
	for _, at := range t.Threads {
		if !slices.Contains(leaves, at) {
			return api.ErrNone, nil, 0
		}
	}
	return api.OK, leaves, depth
}

func wantChecked(t *testing.T, x api.Topology, err api.Errno, leaves []int, depth int) {
	t.Helper()
	if e := Check(x); e != err {
		t.Errorf("Check(%v): %d; want %d", x, e, err)
	}
	if l := Leaves(x); !slices.Equal(l, leaves) {
		t.Errorf("Leaves(%v): %v; want %v", x, l, leaves)
	}
	if d := Depth(x); d != depth {
		t.Errorf("Depth(%v): %d; want %d", x, d, depth)
	}
}

func wantTopology(t *testing.T, call string, x api.Topology, err api.Errno, want api.Topology, wantErr api.Errno) {
	t.Helper()
	if err != wantErr || !slices.Equal(x.Parents, want.Parents) || !slices.Equal(x.Threads, want.Threads) {
		t.Errorf("%s: %v, %d; want %v, %d", call, x, err, want, wantErr)
	}
}

func wantEven(t *testing.T, parts []int, threads int, want api.Topology, wantErr api.Errno) {
	t.Helper()
	x, err := Even(parts, threads)
	call := "Even of " + strings.Repeat("..", min(len(parts), 3))
	if len(parts) < 10 {
		call = Text(x)
	}
	wantTopology(t, call, x, err, want, wantErr)
}

func wantParsed(t *testing.T, s string, want api.Topology, wantErr api.Errno) {
	t.Helper()
	x, err := Parse(s)
	if len(s) > 200 {
		s = s[:200]
	}
	wantTopology(t, s, x, err, want, wantErr)
}

// To1: Check, Leaves and Depth are by the chapter's words, of all short topologies.
func TestCheckShort(t *testing.T) {
	lists(-2, 4, 4, func(parents []int) {
		lists(-1, 4, 2, func(threads []int) {
			x := tree(parents, threads...)
			err, leaves, depth := plain(x)
			wantChecked(t, x, err, leaves, depth)
		})
	})
}

// To1: and of all trees of seven places, with a thread anywhere.
func TestCheckTrees(t *testing.T) {
	var grow func(parents []int)
	grow = func(parents []int) {
		if len(parents) == 7 {
			for at := -1; at <= 7; at++ {
				x := tree(parents, at)
				err, leaves, depth := plain(x)
				wantChecked(t, x, err, leaves, depth)
			}
			return
		}
		for parent := range parents {
			grow(append(slices.Clone(parents), parent))
		}
	}
	grow([]int{-1})
}

// To1: how many there may be: one place at least, and MaxNodes at most, one thread at least, and MaxThreads at most.
func TestCheckMany(t *testing.T) {
	rising := func(n int) []int {
		var out []int
		for i := range n {
			out = append(out, i+1)
		}
		return out
	}
	wantChecked(t, tree(star(31), 1), api.OK, rising(31), 2)
	wantChecked(t, tree(star(32), 1), api.ErrMany, nil, 0)
	wantChecked(t, tree(row(33, 9), 1), api.ErrMany, nil, 0)
	wantChecked(t, tree(row(32, 9), 1), api.ErrTree, nil, 0)
	wantChecked(t, tree(nil, 0), api.ErrMany, nil, 0)
	wantChecked(t, tree([]int{-1}), api.ErrMany, nil, 0)
	wantChecked(t, tree([]int{0}), api.ErrMany, nil, 0)
	wantChecked(t, tree([]int{-1}, row(32, 0)...), api.OK, []int{0}, 1)
	wantChecked(t, tree([]int{-1}, row(33, 0)...), api.ErrMany, nil, 0)
	wantChecked(t, tree([]int{0}, row(33, 9)...), api.ErrMany, nil, 0)
	wantChecked(t, tree([]int{0}, row(32, 9)...), api.ErrTree, nil, 0)
	wantChecked(t, api.Topology{}, api.ErrMany, nil, 0)
	wantChecked(t, tree(row(1<<20, -1), row(1<<20, 0)...), api.ErrMany, nil, 0)
}

// To1: a leaf is MaxDepth places deep at most, and all are equally deep.
func TestCheckDeep(t *testing.T) {
	wantChecked(t, tree(chain(5), 4), api.OK, []int{4}, 5)
	wantChecked(t, tree(chain(6), 5), api.ErrTree, nil, 0)
	wantChecked(t, tree(chain(6), 9), api.ErrTree, nil, 0)
	wantChecked(t, tree(chain(32), 31), api.ErrTree, nil, 0)
	wantChecked(t, tree([]int{-1, 0, 0, 1}, 3), api.ErrTree, nil, 0)
	wantChecked(t, tree([]int{-1, 0, 0, 1, 2, 2}, 3, 5), api.OK, []int{3, 4, 5}, 3)
	wantChecked(t, tree([]int{-1, 0, 0, 2, 1}, 3, 4), api.OK, []int{3, 4}, 3)
}

// To1: the parents are of lesser numbers, the root's is -1, and threads are at leaves; others than places there are none.
func TestCheckWrong(t *testing.T) {
	for _, parents := range [][]int{{0}, {-2}, {api.MinInt}, {api.MaxInt}, {-1, -1}, {-1, 1}, {-1, 2, 0}, {-1, api.MaxInt}, {-1, api.MinInt}} {
		wantChecked(t, tree(parents, 0), api.ErrTree, nil, 0)
	}
	for _, at := range []int{-1, 0, 3, api.MaxInt, api.MinInt} {
		wantChecked(t, tree([]int{-1, 0, 0}, 1, at), api.ErrNone, nil, 0)
		wantChecked(t, tree([]int{-1, 0, 0}, at, 1), api.ErrNone, nil, 0)
	}
}

// To1: Same is of the Parents and of the Threads, also of topologies that may not be; nil and empty lists are the same.
func TestSame(t *testing.T) {
	all := []api.Topology{
		{},
		tree([]int{-1}, 0), tree([]int{-1}, 0, 0), tree([]int{-1}), tree(nil, 0), tree(nil, -1), tree([]int{0}, -1),
		tree([]int{-1, 0, 0}, 1, 2), tree([]int{-1, 0, 0}, 2, 1), tree([]int{-1, 0}, 1, 2), tree([]int{-1, 0, 1}, 1, 2),
	}
	for i, a := range all {
		for j, b := range all {
			b = tree(slices.Clone(b.Parents), slices.Clone(b.Threads)...)
			if got := Same(a, b); got != (i == j) {
				t.Errorf("Same(%v, %v): %v", a, b, got)
			}
		}
	}
	if !Same(api.Topology{}, api.Topology{Parents: []int{}, Threads: []int{}}) {
		t.Error("nil and empty lists are not the same")
	}
}

// plainEven is what Even should grow, by places that each know how they came: level by level, from the left.
func plainEven(parts []int, threads int) api.Topology {
	parents, level := []int{-1}, []int{0}
	for _, part := range parts {
		var next []int
		for i := 0; i < part*len(level); i++ {
			next = append(next, len(parents))
			parents = append(parents, level[i/part])
		}
		level = next
	}
	var at []int
	for i := 0; i < threads*len(level); i++ {
		at = append(at, level[i/threads])
	}
	return tree(parents, at...)
}

// To2, To4: Even is that tree, if it may be, and is as deep as parts are many, and one.
func TestEvenShort(t *testing.T) {
	for threads := 1; threads <= 5; threads++ {
		lists(1, 4, 5, func(parts []int) {
			want := plainEven(parts, threads)
			if err, _, _ := plain(want); err != api.OK {
				wantEven(t, parts, threads, api.Topology{}, err)
				return
			}
			wantEven(t, parts, threads, want, api.OK)
			x, _ := Even(parts, threads)
			if d := Depth(x); d != len(parts)+1 {
				t.Errorf("Even(%v, %d) is %d deep", parts, threads, d)
			}
			for place, parent := range x.Parents {
				if parent >= place {
					t.Errorf("Even(%v, %d): %d is below %d", parts, threads, place, parent)
				}
			}
		})
	}
}

// To2: the chapter's example, and the least tree.
func TestEvenExamples(t *testing.T) {
	wantEven(t, []int{2}, 3, tree([]int{-1, 0, 0}, 1, 1, 1, 2, 2, 2), api.OK)
	wantEven(t, nil, 1, tree([]int{-1}, 0), api.OK)
	wantEven(t, []int{}, 32, tree([]int{-1}, row(32, 0)...), api.OK)
	wantEven(t, []int{2, 3}, 1, tree([]int{-1, 0, 0, 1, 1, 1, 2, 2, 2}, 3, 4, 5, 6, 7, 8), api.OK)
	wantEven(t, []int{31}, 1, plainEven([]int{31}, 1), api.OK)
	wantEven(t, []int{1, 1, 1, 1}, 32, plainEven([]int{1, 1, 1, 1}, 32), api.OK)
}

// To2: what comes may be too many places or threads (as Check says: ahead of being too deep), or too deep.
func TestEvenMany(t *testing.T) {
	for _, x := range []struct {
		parts   []int
		threads int
		err     api.Errno
	}{
		{nil, 33, api.ErrMany}, {nil, api.MaxInt, api.ErrMany}, {[]int{2}, 17, api.ErrMany}, {[]int{2}, 1 << 62, api.ErrMany},
		{[]int{2}, 1<<62 + 1, api.ErrMany}, {[]int{4}, 1 << 62, api.ErrMany},
		{[]int{32}, 1, api.ErrMany}, {[]int{api.MaxInt}, 1, api.ErrMany}, {[]int{2, api.MaxInt}, 1, api.ErrMany}, {[]int{1 << 32, 1 << 32}, 1, api.ErrMany},
		{[]int{4, 7}, 1, api.ErrMany}, {[]int{2, 1 << 63 / 2, 2}, 1, api.ErrMany}, {row(32, 1), 1, api.ErrMany}, {row(1<<20, 1), 1, api.ErrMany},
		{row(1<<20, api.MaxInt), api.MaxInt, api.ErrMany},
		{row(5, 1), 1, api.ErrTree}, {row(31, 1), 32, api.ErrTree}, {row(31, 1), 33, api.ErrMany}, {row(5, 1), 33, api.ErrMany}, {row(5, 1), api.MaxInt, api.ErrMany},
	} {
		wantEven(t, x.parts, x.threads, api.Topology{}, x.err)
	}
}

// To2: whatever is below 1 is wrong, ahead of all else.
func TestEvenWrong(t *testing.T) {
	for _, n := range []int{0, -1, api.MinInt} {
		wantEven(t, nil, n, api.Topology{}, api.ErrArg)
		wantEven(t, []int{40}, n, api.Topology{}, api.ErrArg)
		wantEven(t, []int{n}, 1, api.Topology{}, api.ErrArg)
		wantEven(t, []int{n, 40}, 40, api.Topology{}, api.ErrArg)
		wantEven(t, []int{40, n}, 40, api.Topology{}, api.ErrArg)
		wantEven(t, append(row(40, 1), n), 1, api.Topology{}, api.ErrArg)
	}
}

// To3: a topology's text, and the empty one of what may not be.
func TestText(t *testing.T) {
	for _, x := range []struct {
		t    api.Topology
		text string
	}{
		{tree([]int{-1}, 0), "nodes -1\nthreads 0\n"},
		{tree([]int{-1, 0, 0}, 1, 1, 2), "nodes -1,0,0\nthreads 1,1,2\n"},
		{tree([]int{-1, 0, 0, 2, 1}, 4, 3), "nodes -1,0,0,2,1\nthreads 4,3\n"},
		{api.Topology{}, ""}, {tree([]int{-1}), ""}, {tree(nil, 0), ""}, {tree([]int{0}, 0), ""}, {tree([]int{-1, 0}, 0), ""},
		{tree(chain(6), 5), ""}, {tree([]int{-1}, row(33, 0)...), ""},
	} {
		if s := Text(x.t); s != x.text {
			t.Errorf("Text(%v): %q; want %q", x.t, s, x.text)
		}
	}
}

// To4: what may be comes back from its text.
func TestBack(t *testing.T) {
	back := func(x api.Topology) {
		if Check(x) == api.OK {
			wantParsed(t, Text(x), x, api.OK)
		}
	}
	lists(-1, 3, 4, func(parents []int) {
		lists(0, 4, 2, func(threads []int) { back(tree(parents, threads...)) })
	})
	back(tree(star(31), row(32, 31)...))
	back(tree(chain(5), row(32, 4)...))
}

// To3: the words stand between any blanks, and the last line end may lack, as layer 4 has it.
func TestParseBlanks(t *testing.T) {
	want := tree([]int{-1, 0, 0}, 1, 1, 2)
	for _, s := range []string{
		"nodes -1,0,0\nthreads 1,1,2\n",
		"nodes -1,0,0\nthreads 1,1,2",
		"  nodes \t -1,0,0 \n\tthreads  1,1,2\t\n",
	} {
		wantParsed(t, s, want, api.OK)
	}
}

// To3: texts of another form.
func TestParseForm(t *testing.T) {
	for _, s := range []string{
		"", "\n", "\n\n", "\n\n\n", " ", "nodes -1\n", "nodes -1", "threads 0\n", "threads 0\nnodes -1\n",
		"nodes -1\nthreads 0\n\n", "\nnodes -1\nthreads 0\n", "nodes -1\n\nthreads 0\n", "nodes -1\nthreads 0\nnodes -1\n", "nodes -1 threads 0\n",
		"nodes\nthreads 0\n", "nodes -1\nthreads\n", "nodes \nthreads 0\n", "nodes -1\nthreads \n",
		"nodes -1 0\nthreads 0\n", "nodes -1\nthreads 0 0\n", "nodes -1,\nthreads 0\n", "nodes -1\nthreads ,0\n", "nodes -1\nthreads 0, 0\n",
		"nodes -01\nthreads 0\n", "nodes -1\nthreads 00\n", "nodes -1\nthreads -0\n", "nodes -1\nthreads x\n", "nodes x\nthreads 0\n",
		"node -1\nthreads 0\n", "Nodes -1\nthreads 0\n", "nodes -1\nthread 0\n", "nodes-1\nthreads 0\n", "nodes -1\r\nthreads 0\r\n",
		"nodes -1\nthreads 9223372036854775808\n", "nodes -9223372036854775809\nthreads 0\n",
		"nodes 5\nthreads x\n", "-1 nodes\n0 threads\n",
		strings.Repeat("nodes -1\n", 1<<16),
	} {
		wantParsed(t, s, api.Topology{}, api.ErrForm)
	}
}

// To3: what a text of that form tells may not be.
func TestParseCheck(t *testing.T) {
	zeros := strings.Repeat(",0", 31)
	for _, x := range []struct {
		s   string
		err api.Errno
	}{
		{"nodes 0\nthreads 0\n", api.ErrTree}, {"nodes -1,1\nthreads 0\n", api.ErrTree}, {"nodes -1,0,1,2,3,4\nthreads 5\n", api.ErrTree}, {"nodes -1,0,0,1\nthreads 3\n", api.ErrTree},
		{"nodes -1,0\nthreads 0\n", api.ErrNone}, {"nodes -1\nthreads 1\n", api.ErrNone}, {"nodes -1\nthreads -1\n", api.ErrNone},
		{"nodes 0,0" + zeros + "\nthreads 0\n", api.ErrMany}, {"nodes 0\nthreads 0,0" + zeros + "\n", api.ErrMany},
		{"nodes 0\nthreads 9223372036854775807\n", api.ErrTree}, {"nodes -9223372036854775808\nthreads 0\n", api.ErrTree},
		{"nodes 0" + strings.Repeat(",0", 1<<16) + "\nthreads 0\n", api.ErrMany},
	} {
		wantParsed(t, x.s, api.Topology{}, x.err)
	}
	wantParsed(t, "nodes -1\nthreads 0"+zeros+"\n", tree([]int{-1}, row(32, 0)...), api.OK)
	wantParsed(t, "nodes -1"+zeros+"\nthreads 31\n", tree(star(31), 31), api.OK)
}

// R3: nothing handed in is changed, and what is answered is new memory.
func TestMemory(t *testing.T) {
	x := tree([]int{-1, 0, 0}, 1, 2)
	parts := []int{2}
	leaves := Leaves(x)
	leaves[0] = 9
	even, _ := Even(parts, 1)
	again, _ := Even(parts, 1)
	Check(x)
	Depth(x)
	Text(x)
	even.Parents[0], even.Threads[0] = 9, 9
	if !Same(x, tree([]int{-1, 0, 0}, 1, 2)) || parts[0] != 2 || !Same(again, x) {
		t.Error(x, parts, again)
	}
	one, _ := Parse(Text(x))
	two, _ := Parse(Text(x))
	one.Parents[0], one.Threads[0] = 9, 9
	if !Same(two, x) || !slices.Equal(Leaves(x), []int{1, 2}) {
		t.Error(two)
	}
	bare := tree([]int{-1}, 0)
	Leaves(bare)[0] = 9
	bare.Threads = append(bare.Threads[:1:1], 0)
	if !slices.Equal(Leaves(bare), []int{0}) {
		t.Error(bare)
	}
}
