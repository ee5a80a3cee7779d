package field

import (
	"kissgate/api"
	"testing"
)

// The document's own numbers, so that the package's constants are held against them too.
const (
	topIndex  = 65535
	topNumber = 140737488355327
)

// parts is a word as its three parts.
type parts struct {
	index, number int
	marked        bool
}

// partsOf is what the calls tell of a word.
func partsOf(w int) parts {
	return parts{Index(w), Number(w), Marked(w)}
}

// packed is the word of an index and a number that may be.
func packed(t *testing.T, index, number int) int {
	t.Helper()
	w, err := Pack(index, number)
	if err != api.OK {
		t.Fatalf("Pack(%d, %d): %v", index, number, err)
	}
	return w
}

// indexes and numbers are ones that may be, from the least to the greatest: the ends, what stands beside them, single bits, and ordinary ones.
func indexes() []int {
	return []int{0, 1, 2, 3, 255, 256, 4096, 32767, 32768, 40000, topIndex - 1, topIndex}
}

func numbers() []int {
	return []int{0, 1, 2, 3, 65535, 65536, 1 << 31, 1<<32 - 1, 1 << 32, 1 << 46, 123456789012345, topNumber - 1, topNumber}
}

// Fi1: words that are told in the document's bits.
func TestPack(t *testing.T) {
	words := []struct{ index, number, word int }{
		{0, 0, 0},
		{1, 0, 1},
		{0, 1, 65536},
		{3, 2, 131075},
		{topIndex, 0, 0xffff},
		{0, topNumber, 0x7fffffffffff0000},
		{topIndex, topNumber, api.MaxInt},
		{0x8421, 0x6543_2109_8765, 0x6543_2109_8765_8421},
	}
	for _, c := range words {
		if w, err := Pack(c.index, c.number); w != c.word || err != api.OK {
			t.Errorf("Pack(%d, %d): %d, %v; want %d, %v", c.index, c.number, w, err, c.word, api.OK)
		}
	}
}

// Fi1: an index or a number that may not be is ErrArg, whatever the other one is, and beside it stands 0 (R2).
func TestPackWrong(t *testing.T) {
	badIndexes := []int{-1, -2, topIndex + 1, topIndex + 2, 1 << 17, 1 << 32, 1 << 47, 1 << 62, -65536, api.MinInt, api.MinInt + 1, api.MaxInt}
	badNumbers := []int{-1, -2, topNumber + 1, topNumber + 2, 1 << 48, 1 << 62, -topNumber, api.MinInt, api.MinInt + 1, api.MaxInt}
	for _, index := range badIndexes {
		for _, number := range append(numbers(), badNumbers...) {
			wantErrArg(t, index, number)
		}
	}
	for _, number := range badNumbers {
		for _, index := range indexes() {
			wantErrArg(t, index, number)
		}
	}
}

func wantErrArg(t *testing.T, index, number int) {
	t.Helper()
	if w, err := Pack(index, number); w != 0 || err != api.ErrArg {
		t.Errorf("Pack(%d, %d): %d, %v; want 0, %v", index, number, w, err, api.ErrArg)
	}
}

// Fi1: the parts of any word, such as no Pack made too, and the ints' own ends.
func TestParts(t *testing.T) {
	words := []struct {
		word int
		want parts
	}{
		{0, parts{0, 0, false}},
		{1, parts{1, 0, false}},
		{131075, parts{3, 2, false}},
		{65535, parts{topIndex, 0, false}},
		{65536, parts{0, 1, false}},
		{65537, parts{1, 1, false}},
		{api.MaxInt, parts{topIndex, topNumber, false}},
		{api.MaxInt - 1, parts{topIndex - 1, topNumber, false}},
		{api.MaxInt - 65535, parts{0, topNumber, false}},
		{1 << 62, parts{0, 1 << 46, false}},
		{-1, parts{topIndex, topNumber, true}},
		{-2, parts{topIndex - 1, topNumber, true}},
		{-65536, parts{0, topNumber, true}},
		{-65537, parts{topIndex, topNumber - 1, true}},
		{api.MinInt, parts{0, 0, true}},
		{api.MinInt + 1, parts{1, 0, true}},
		{api.MinInt + 131075, parts{3, 2, true}},
		{api.MinInt + 65535, parts{topIndex, 0, true}},
		{api.MinInt + 65536, parts{0, 1, true}},
	}
	for _, c := range words {
		if got := partsOf(c.word); got != c.want {
			t.Errorf("parts of %d: %v; want %v", c.word, got, c.want)
		}
	}
}

// Fi1: what a word is with the mark, and without it.
func TestMark(t *testing.T) {
	words := []struct{ word, on, off int }{
		{0, api.MinInt, 0},
		{1, api.MinInt + 1, 1},
		{131075, api.MinInt + 131075, 131075},
		{api.MaxInt, -1, api.MaxInt},
		{api.MaxInt - 1, -2, api.MaxInt - 1},
		{-1, -1, api.MaxInt},
		{-65536, -65536, api.MaxInt - 65535},
		{api.MinInt, api.MinInt, 0},
		{api.MinInt + 1, api.MinInt + 1, 1},
	}
	for _, c := range words {
		if on, off := Mark(c.word, true), Mark(c.word, false); on != c.on || off != c.off {
			t.Errorf("%d with the mark %d, without it %d; want %d and %d", c.word, on, off, c.on, c.off)
		}
	}
}

// Fi2: a word of an index and a number has both of them, whatever the other is, and whether it is marked or not.
func TestPartsAreKept(t *testing.T) {
	for _, index := range indexes() {
		for _, number := range numbers() {
			w := packed(t, index, number)
			wantParts(t, w, parts{index, number, false})
			wantParts(t, Mark(w, false), parts{index, number, false})
			marked := Mark(w, true)
			wantParts(t, marked, parts{index, number, true})
			if back := Mark(marked, false); back != w {
				t.Errorf("%d, marked and no longer marked: %d", w, back)
			}
		}
	}
}

func wantParts(t *testing.T, w int, want parts) {
	t.Helper()
	if got := partsOf(w); got != want {
		t.Errorf("parts of %d: %v; want %v", w, got, want)
	}
}

// Fi2: each single bit belongs to one part alone, and turning it changes no other part.
func TestEachBitIsOfOnePart(t *testing.T) {
	for _, w := range []int{0, -1, 131075, api.MinInt, api.MaxInt, 0x1234_5678_9abc_def0} {
		for bit := 0; bit < 64; bit++ {
			want := partsOf(w)
			switch {
			case bit < 16:
				want.index ^= 1 << bit
			case bit < 63:
				want.number ^= 1 << (bit - 16)
			default:
				want.marked = !want.marked
			}
			wantParts(t, w^1<<bit, want)
		}
	}
}

// Fi2: any word is what its three parts make anew.
func TestWordIsItsParts(t *testing.T) {
	words := []int{0, 1, -1, -2, 65535, 65536, -65536, 131075, api.MaxInt, api.MaxInt - 1, api.MinInt, api.MinInt + 1}
	state := uint64(7)
	for range 2000 {
		state = state*6364136223846793005 + 1442695040888963407
		words = append(words, int(state^state>>29))
	}
	for _, w := range words {
		if anew := Mark(packed(t, Index(w), Number(w)), Marked(w)); anew != w {
			t.Errorf("the parts of %d make %d", w, anew)
		}
	}
}

// Fi2: words without the mark stand in the order of their numbers, and then of their indexes; no two of them are alike.
func TestOrder(t *testing.T) {
	last, first := 0, true
	for _, number := range numbers() {
		for _, index := range indexes() {
			w := packed(t, index, number)
			if !first && w <= last {
				t.Errorf("the word of %d and %d is %d, and the one ahead of it %d", index, number, w, last)
			}
			last, first = w, false
		}
	}
}
