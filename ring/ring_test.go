package ring

import (
	"kissgate/api"
	"slices"
	"strings"
	"testing"
)

// row is a new row of things.
func row[T any](things ...T) *Ring[T] {
	r := new(Ring[T])
	for _, x := range things {
		r.Push(x)
	}
	return r
}

// turned is a row of things whose list goes round at another slot, the more turns the farther.
func turned[T any](turns int, things ...T) *Ring[T] {
	var none T
	r := row(things...)
	for range turns {
		r.Push(none)
		r.Pop()
	}
	for range r.Len() {
		r.Pop()
	}
	for _, x := range things {
		r.Push(x)
	}
	return r
}

// numbers are as many numbers, from 1 on.
func numbers(many int) []int {
	out := make([]int, many)
	for i := range out {
		out[i] = i + 1
	}
	return out
}

// wantThing holds what a call tells of a thing against what it should.
func wantThing[T comparable](t *testing.T, call string, x T, ok bool, wantX T, wantOk bool) {
	t.Helper()
	if x != wantX || ok != wantOk {
		t.Fatalf("%s: %v, %v; want %v, %v", call, x, ok, wantX, wantOk)
	}
}

// wantRow holds a row against the things that it should have, by all calls that only look.
func wantRow[T comparable](t *testing.T, r *Ring[T], things []T) {
	t.Helper()
	if n := r.Len(); n != len(things) {
		t.Fatalf("%d things; want %v", n, things)
	}
	for i, want := range things {
		x, ok := r.At(i)
		wantThing(t, "At", x, ok, want, true)
		if at := r.Find(func(y T) bool { return y == want }); at != slices.Index(things, want) {
			t.Fatalf("Find of %v: %d; want %d", want, at, slices.Index(things, want))
		}
	}
	var none T
	for _, i := range []int{-1, len(things), len(things) + 1, 2*len(things) + 1, api.MaxInt, api.MinInt} {
		x, ok := r.At(i)
		wantThing(t, "At beyond", x, ok, none, false)
	}
	many := 0
	for i, x := range r.All() {
		if i != many || i >= len(things) || x != things[i] {
			t.Fatalf("All tells %v at %d as the one %d of %v", x, i, many, things)
		}
		many++
	}
	if many != len(things) {
		t.Fatalf("All tells of %d things; want %v", many, things)
	}
}

// wantNothingKept looks whether slots without a thing are zero.
func wantNothingKept[T comparable](t *testing.T, r *Ring[T]) {
	t.Helper()
	var none T
	for i := r.many; i < len(r.slots); i++ {
		if x := r.slots[r.slot(i)]; x != none {
			t.Fatalf("%v is kept, though it is gone", x)
		}
	}
}

// Ri1: the example of the chapter.
func TestExample(t *testing.T) {
	r := row(3, 4)
	x, ok := r.Pop()
	wantThing(t, "Pop", x, ok, 3, true)
	wantRow(t, r, []int{4})
}

// Ri1: Push puts a thing behind all others, whatever the things are.
func TestPush(t *testing.T) {
	r := new(Ring[string])
	var want []string
	for _, s := range []string{"a", "", "b", "a", "", "c", "a", "d", "e"} {
		r.Push(s)
		want = append(want, s)
		wantRow(t, r, want)
	}
	wantRow(t, row(api.Pick{Thread: 1}, api.Pick{}, api.Pick{Want: 2}), []api.Pick{{Thread: 1}, {}, {Want: 2}})
	wantRow(t, row[any](1, nil, "x"), []any{1, nil, "x"})
	wantRow(t, row(struct{}{}, struct{}{}), make([]struct{}, 2))
}

// Ri1: Pop takes the first thing each time, and tells zero and false when there is none.
func TestPop(t *testing.T) {
	r := row(numbers(9)...)
	for i := range 9 {
		x, ok := r.Pop()
		wantThing(t, "Pop", x, ok, i+1, true)
		wantRow(t, r, numbers(9)[i+1:])
	}
	for range 3 {
		x, ok := r.Pop()
		wantThing(t, "Pop of none", x, ok, 0, false)
		wantRow(t, r, nil)
	}
	r.Push(5)
	wantRow(t, r, []int{5})
}

// Ri1: a thing that is zero is one all the same.
func TestZeroThings(t *testing.T) {
	r := row(0, 0)
	wantRow(t, r, []int{0, 0})
	x, ok := r.Pop()
	wantThing(t, "Pop", x, ok, 0, true)
	x, ok = r.Cut(0)
	wantThing(t, "Cut", x, ok, 0, true)
	x, ok = r.Pop()
	wantThing(t, "Pop of none", x, ok, 0, false)
	p := row[*int](nil)
	at, ok := p.At(0)
	wantThing(t, "At", at, ok, nil, true)
}

// Ri1: Cut takes the one of a place, and those behind it stand one place ahead, wherever the row begins in its list.
func TestCut(t *testing.T) {
	for many := range 9 {
		for i := range many {
			for turns := range 2*many + 2 {
				r := turned(turns, numbers(many)...)
				wantRow(t, r, numbers(many))
				x, ok := r.Cut(i)
				wantThing(t, "Cut", x, ok, i+1, true)
				wantRow(t, r, slices.Delete(numbers(many), i, i+1))
				wantNothingKept(t, r)
				r.Push(99)
				wantRow(t, r, append(slices.Delete(numbers(many), i, i+1), 99))
			}
		}
	}
}

// Ri1: there is none at the places beside the row; nothing changes.
func TestNoSuchPlace(t *testing.T) {
	for many := range 6 {
		r := turned(2, numbers(many)...)
		for _, i := range []int{-1, -many, -many - 1, many, many + 1, len(r.slots), 2 * len(r.slots), api.MaxInt, api.MinInt} {
			if i >= 0 && i < many {
				continue
			}
			x, ok := r.At(i)
			wantThing(t, "At", x, ok, 0, false)
			x, ok = r.Cut(i)
			wantThing(t, "Cut", x, ok, 0, false)
			wantRow(t, r, numbers(many))
		}
	}
}

// Ri1: what only looks changes nothing.
func TestLooksChangeNothing(t *testing.T) {
	r := turned(1, 7, 8, 9)
	for range 5 {
		r.At(1)
		r.Len()
		r.Find(func(x int) bool { return x == 9 })
		for range r.All() {
			break
		}
		wantRow(t, r, []int{7, 8, 9})
	}
}

// Ri2: All tells of the row as it is when it is gone through, and not as it was when All was called; and it may be gone through again.
func TestAllIsOfThen(t *testing.T) {
	r := new(Ring[int])
	all := r.All()
	told := func() []int {
		var out []int
		for i, x := range all {
			if i != len(out) {
				t.Errorf("the place %d; want %d", i, len(out))
			}
			out = append(out, x)
		}
		return out
	}
	steps := []struct {
		do   func()
		want []int
	}{
		{func() {}, nil},
		{func() { r.Push(4) }, []int{4}},
		{func() { r.Push(5); r.Push(6) }, []int{4, 5, 6}},
		{func() { r.Pop() }, []int{5, 6}},
		{func() { r.Push(7) }, []int{5, 6, 7}},
		{func() { r.Cut(1) }, []int{5, 7}},
		{func() { r.Pop(); r.Pop() }, nil},
	}
	for i, s := range steps {
		s.do()
		for range 2 {
			if got := told(); !slices.Equal(got, s.want) {
				t.Errorf("step %d: %v; want %v", i, got, s.want)
			}
		}
	}
}

// Ri2: All may be left at each place, and gone through within itself.
func TestAllMayBeLeft(t *testing.T) {
	r := turned(3, numbers(5)...)
	for stop := range 5 {
		var told []int
		for i, x := range r.All() {
			told = append(told, x)
			if i == stop {
				break
			}
		}
		if !slices.Equal(told, numbers(stop+1)) {
			t.Errorf("left at %d: %v", stop, told)
		}
	}
	pairs := 0
	for i := range r.All() {
		for j := range r.All() {
			if j > i {
				break
			}
			pairs++
		}
	}
	if pairs != 15 {
		t.Errorf("%d pairs; want 15", pairs)
	}
	wantRow(t, r, numbers(5))
}

// Ri2, R1: going through ends, and tells of what is there, even if the row is changed on the way.
func TestAllOfWhatChanges(t *testing.T) {
	ways := []struct {
		change func(r *Ring[int])
		told   []int
		left   []int
	}{
		{func(r *Ring[int]) { r.Push(9) }, []int{1, 2, 3, 4}, []int{1, 2, 3, 4, 9, 9, 9, 9}},
		{func(r *Ring[int]) { r.Pop() }, []int{1, 3}, []int{3, 4}},
		{func(r *Ring[int]) { r.Cut(r.Len() - 1) }, []int{1, 2}, []int{1, 2}},
		{func(r *Ring[int]) { r.Cut(1) }, []int{1, 3}, []int{1, 4}},
		{func(r *Ring[int]) { x, _ := r.Pop(); r.Push(x) }, []int{1, 3, 1, 3}, []int{1, 2, 3, 4}},
		{func(r *Ring[int]) {
			for range r.Len() {
				r.Pop()
			}
		}, []int{1}, nil},
	}
	for i, w := range ways {
		r := row(numbers(4)...)
		var told []int
		for at, x := range r.All() {
			if at != len(told) {
				t.Errorf("way %d: the place %d; want %d", i, at, len(told))
			}
			told = append(told, x)
			w.change(r)
		}
		if !slices.Equal(told, w.told) {
			t.Errorf("way %d: %v; want %v", i, told, w.told)
		}
		wantRow(t, r, w.left)
	}
}

// Ri2: a panic of whoever goes through is its own: it comes through, and the row stays as it is.
func TestAllHidesNoPanic(t *testing.T) {
	r := row(numbers(3)...)
	func() {
		defer func() {
			if got := recover(); got != "stop" {
				t.Errorf("what came through: %v", got)
			}
		}()
		for range r.All() {
			panic("stop")
		}
	}()
	wantRow(t, r, numbers(3))
}

// Ri2: Find is the least place of one of which is tells true; -1 without one.
func TestFind(t *testing.T) {
	for turns := range 8 {
		r := turned(turns, "b", "a", "", "a", "b")
		finds := []struct {
			is func(s string) bool
			at int
		}{
			{func(s string) bool { return true }, 0},
			{func(s string) bool { return false }, -1},
			{func(s string) bool { return s == "b" }, 0},
			{func(s string) bool { return s == "a" }, 1},
			{func(s string) bool { return s == "" }, 2},
			{func(s string) bool { return s == "c" }, -1},
			{nil, -1},
		}
		for i, f := range finds {
			if at := r.Find(f.is); at != f.at {
				t.Errorf("find %d: %d; want %d", i, at, f.at)
			}
		}
		asked := 0
		if at := r.Find(func(string) bool { asked++; return asked == 4 }); at != 3 {
			t.Errorf("the fourth one that is asked of: %d; want 3", at)
		}
		r.Pop()
		if at := r.Find(func(s string) bool { return s == "b" }); at != 3 {
			t.Errorf("behind a Pop: %d; want 3", at)
		}
	}
	if at := new(Ring[string]).Find(func(string) bool { return true }); at != -1 {
		t.Errorf("Find of none: %d", at)
	}
}

// R1: Find does not panic if is does, which tells true of others all the same.
func TestFindOfWhatPanics(t *testing.T) {
	r := row(0, 1, 2)
	if at := r.Find(func(x int) bool { return 6/x == 3 }); at != 2 {
		t.Errorf("%d; want 2", at)
	}
	if at := r.Find(func(int) bool { panic("no") }); at != -1 {
		t.Errorf("%d; want -1", at)
	}
	if at := r.Find(func(int) bool { panic(nil) }); at != -1 {
		t.Errorf("%d; want -1", at)
	}
	wantRow(t, r, []int{0, 1, 2})
}

// R1: Find ends, even if is changes the row each time.
func TestFindOfWhatChanges(t *testing.T) {
	r := row(numbers(3)...)
	if at := r.Find(func(x int) bool { r.Push(x); return false }); at != -1 {
		t.Errorf("%d; want -1", at)
	}
	wantRow(t, r, []int{1, 2, 3, 1, 2, 3})
	if at := r.Find(func(int) bool { r.Pop(); return false }); at != -1 {
		t.Errorf("%d; want -1", at)
	}
	wantRow(t, r, []int{1, 2, 3})
}

// Ri3: of nil: nothing is, and stays.
func TestNil(t *testing.T) {
	var r *Ring[string]
	for range 3 {
		wantRow(t, r, nil)
		r.Push("a")
		wantRow(t, r, nil)
		x, ok := r.Pop()
		wantThing(t, "Pop", x, ok, "", false)
		for _, i := range []int{-1, 0, 1, api.MaxInt, api.MinInt} {
			x, ok = r.Cut(i)
			wantThing(t, "Cut", x, ok, "", false)
		}
		if at := r.Find(nil); at != -1 {
			t.Error(at)
		}
		if at := r.Find(func(string) bool { return true }); at != -1 {
			t.Error(at)
		}
		for i, x := range r.All() {
			t.Error(i, x)
		}
	}
}

// R5: a zero row has no things, and takes them.
func TestZero(t *testing.T) {
	var r Ring[int]
	wantRow(t, &r, nil)
	x, ok := r.Pop()
	wantThing(t, "Pop", x, ok, 0, false)
	x, ok = r.Cut(0)
	wantThing(t, "Cut", x, ok, 0, false)
	if at := r.Find(nil); at != -1 {
		t.Error(at)
	}
	r.Push(6)
	wantRow(t, &r, []int{6})
}

// play does as the bytes say with a row and with a plain list of things, and holds the one against the other. A byte p is a Pop, a digit a Cut of that place, any other one a Push.
func play(t *testing.T, script string) {
	t.Helper()
	r := new(Ring[int])
	var want []int
	cut := func(x int, ok bool, i int) {
		t.Helper()
		if i >= len(want) {
			wantThing(t, script, x, ok, 0, false)
			return
		}
		wantThing(t, script, x, ok, want[i], true)
		want = slices.Delete(want, i, i+1)
	}
	for at := range len(script) {
		switch c := script[at]; {
		case c == 'p':
			x, ok := r.Pop()
			cut(x, ok, 0)
		case c >= '0' && c <= '9':
			x, ok := r.Cut(int(c - '0'))
			cut(x, ok, int(c-'0'))
		default:
			r.Push(at + 1)
			want = append(want, at+1)
		}
	}
	wantRow(t, r, want)
	wantNothingKept(t, r)
}

// Ri1 to Ri4: all short scripts of what is done, held against a plain list.
func TestAllShortScripts(t *testing.T) {
	last := []string{""}
	for range 7 {
		var next []string
		for _, s := range last {
			for _, c := range []string{"+", "p", "0", "1", "2"} {
				play(t, s+c)
				next = append(next, s+c)
			}
		}
		last = next
	}
}

// Ri1 to Ri4: long scripts, whose rows become longer and shorter, held against a plain list at each of many lengths.
func TestLongScripts(t *testing.T) {
	const bytes = "++p++3p1+++90++p+5"
	for seed := range 20 {
		var script strings.Builder
		for i := range 300 {
			script.WriteByte(bytes[(i*i*7+i*seed+seed*seed)%len(bytes)])
			if i%10 == 0 {
				play(t, script.String())
			}
		}
	}
}

// Ri4: things come out as they came in, each once, however pushes and pops take turns.
func TestInAndOut(t *testing.T) {
	for ahead := range 40 {
		for some := 1; some <= 5; some++ {
			r := new(Ring[int])
			in, out := 0, 0
			push := func() { r.Push(in); in++ }
			pop := func() {
				x, ok := r.Pop()
				wantThing(t, "Pop", x, ok, out, true)
				out++
			}
			for range ahead {
				push()
			}
			for range 30 {
				for range some {
					push()
				}
				for range some {
					pop()
				}
			}
			for range ahead {
				pop()
			}
			wantRow(t, r, nil)
			wantNothingKept(t, r)
		}
	}
}

// Ri4: what is cut comes out once, and all others as they came in.
func TestCutAndOut(t *testing.T) {
	r := turned(3, numbers(10)...)
	var cut, out []int
	for _, i := range []int{9, 0, 4, 4, 0} {
		x, _ := r.Cut(i)
		cut = append(cut, x)
	}
	for range r.Len() {
		x, _ := r.Pop()
		out = append(out, x)
	}
	if !slices.Equal(cut, []int{10, 1, 6, 7, 2}) || !slices.Equal(out, []int{3, 4, 5, 8, 9}) {
		t.Error(cut, out)
	}
}

// R1: long rows, whose list goes round only by and by, end in time.
func TestLong(t *testing.T) {
	const many = 1000000
	r := new(Ring[int])
	for i := range many {
		r.Push(i)
	}
	if at := r.Find(func(x int) bool { return x == many-1 }); at != many-1 {
		t.Error(at)
	}
	for i := range many {
		x, ok := r.Pop()
		wantThing(t, "Pop", x, ok, i, true)
		r.Push(x)
	}
	room := len(r.slots)
	for range 3 * many {
		x, _ := r.Pop()
		r.Push(x)
	}
	if len(r.slots) != room {
		t.Errorf("a row that is never longer than %d grew from %d slots to %d", many, room, len(r.slots))
	}
}

// R4: two rows have nothing to do with one another.
func TestRowsAreApart(t *testing.T) {
	a, b := row(1, 2, 3), row(1, 2, 3)
	a.Pop()
	a.Push(8)
	b.Cut(1)
	wantRow(t, a, []int{2, 3, 8})
	wantRow(t, b, []int{1, 3})
}
