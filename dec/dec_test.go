package dec

import (
	"kissgate/api"
	"slices"
	"strconv"
	"strings"
	"testing"
)

// number is a number, and its text as the document tells it.
type number struct {
	n    int
	text string
}

// told are numbers whose texts are written out: the ends, what stands beside them, and where digits become more.
func told() []number {
	return []number{
		{0, "0"}, {1, "1"}, {-1, "-1"}, {7, "7"}, {9, "9"}, {10, "10"}, {-9, "-9"}, {-10, "-10"},
		{11, "11"}, {-40, "-40"}, {99, "99"}, {100, "100"}, {101, "101"}, {-100, "-100"},
		{1020304050, "1020304050"}, {-1020304050, "-1020304050"}, {1234567890, "1234567890"},
		{4294967296, "4294967296"}, {-2147483649, "-2147483649"},
		{999999999999999999, "999999999999999999"}, {1000000000000000000, "1000000000000000000"},
		{-999999999999999999, "-999999999999999999"}, {-1000000000000000000, "-1000000000000000000"},
		{api.MaxInt - 1, "9223372036854775806"}, {api.MaxInt, "9223372036854775807"},
		{api.MinInt + 1, "-9223372036854775807"}, {api.MinInt, "-9223372036854775808"},
	}
}

// many are numbers of all lengths, on both sides of 0.
func many() []int {
	var out []int
	for _, c := range told() {
		out = append(out, c.n)
	}
	for p := 1; p <= api.MaxInt/10; p *= 10 {
		for _, n := range []int{p - 1, p, p + 1, 5 * p, 9*p + 1, 10*p - 1} {
			out = append(out, n, -n, ^n)
		}
	}
	state := uint64(3)
	for range 3000 {
		state = state*6364136223846793005 + 1442695040888963407
		out = append(out, int(state), int(state)>>(state>>58))
	}
	return out
}

// wrong are texts that are no number's, and stand in no list's.
func wrong() []string {
	return []string{
		" ", "-", "--", "+", ",", ".", "a", "\x00", "\n", "\x80", "\xff",
		"00", "01", "-0", "-00", "-01", "000000000000000000001", "-0000", "0-", "0-1",
		"+0", "+1", "--1", "-+1", "- 1", "1-", "1-1", "-1-", "1+1",
		" 1", "1 ", "\t1", "1\t", "1\n", "\n1", "1\r", "1\x00", "\x001",
		"1a", "a1", "0x1", "1e3", "1_0", "1.0", "1.", "1,", ",1", "1 2",
		"/", ":", "1/", "1:", "-/", "-:", "\uff11", "1\uff11", "\u22121", "\u0661",
		"9223372036854775808", "9223372036854775809", "9223372036854775810", "9999999999999999999",
		"10000000000000000000", "18446744073709551615", "18446744073709551616", "18446744073709551617",
		"92233720368547758070", "100000000000000000000",
		"-9223372036854775809", "-9223372036854775810", "-9999999999999999999",
		"-10000000000000000000", "-18446744073709551616", "-18446744073709551617", "-92233720368547758080",
		"1" + strings.Repeat("0", 30), strings.Repeat("9", 1000), "-" + strings.Repeat("9", 1000),
	}
}

// isText tells whether a text is a number's, by the library's numbers, and which one's.
func isText(s string) (int, bool) {
	n, err := strconv.Atoi(s)
	if err != nil || strconv.Itoa(n) != s {
		return 0, false
	}
	return n, true
}

// each hands out all texts of some bytes, up to a length.
func each(bytes string, most int, see func(s string)) {
	see("")
	last := []string{""}
	for range most {
		var next []string
		for _, s := range last {
			for i := range len(bytes) {
				longer := s + bytes[i:i+1]
				see(longer)
				next = append(next, longer)
			}
		}
		last = next
	}
}

func wantParse(t *testing.T, s string, n int, err api.Errno) {
	t.Helper()
	if m, e := Parse(s); m != n || e != err {
		t.Errorf("Parse(%q): %d, %v; want %d, %v", s, m, e, n, err)
	}
}

func wantTake(t *testing.T, s string, n, long int) {
	t.Helper()
	if m, l := Take(s); m != n || l != long {
		t.Errorf("Take(%q): %d, %d; want %d, %d", s, m, l, n, long)
	}
}

func wantNumbers(t *testing.T, s string, l []int, err api.Errno) {
	t.Helper()
	if m, e := Numbers(s); !slices.Equal(m, l) || e != err {
		t.Errorf("Numbers(%q): %v, %v; want %v, %v", s, m, e, l, err)
	}
}

// De1: the text of each number that is told in the document's digits, and back.
func TestText(t *testing.T) {
	for _, c := range told() {
		if s := Text(c.n); s != c.text {
			t.Errorf("Text(%d): %q; want %q", c.n, s, c.text)
		}
		wantParse(t, c.text, c.n, api.OK)
		wantTake(t, c.text, c.n, len(c.text))
	}
}

// De1: numbers of all lengths have the library's texts.
func TestTextOfMany(t *testing.T) {
	for _, n := range many() {
		if s := Text(n); s != strconv.Itoa(n) {
			t.Errorf("Text(%d): %q", n, s)
		}
	}
}

// De1: a text that is no number's is ErrForm, and beside it stands 0 (R2).
func TestParseWrong(t *testing.T) {
	for _, s := range append(wrong(), "", "1,2", "-1,0") {
		wantParse(t, s, 0, api.ErrForm)
	}
}

// De1: the longest beginning that is a number's text.
func TestTake(t *testing.T) {
	texts := []struct {
		s       string
		n, long int
	}{
		{"12a", 12, 2}, {"12,3", 12, 2}, {"12 3", 12, 2}, {"-40l 1s", -40, 3}, {"5s", 5, 1}, {"0l", 0, 1},
		{"1-2", 1, 1}, {"-1-2", -1, 2}, {"1+", 1, 1}, {"7\x00", 7, 1}, {"7\n8", 7, 1}, {"3\uff11", 3, 1},
		{"0", 0, 1}, {"00", 0, 1}, {"007", 0, 1}, {"0-1", 0, 1}, {"0,", 0, 1}, {"10", 10, 2}, {"100x", 100, 3},
		{"", 0, 0}, {"-", 0, 0}, {"--1", 0, 0}, {"-a", 0, 0}, {"-0", 0, 0}, {"-01", 0, 0}, {"-00", 0, 0},
		{"a1", 0, 0}, {" 1", 0, 0}, {"+1", 0, 0}, {",1", 0, 0}, {"/1", 0, 0}, {":1", 0, 0}, {"-/", 0, 0}, {"-:", 0, 0}, {"\xff1", 0, 0},
		{"9/", 9, 1}, {"9:", 9, 1}, {"-9/", -9, 2}, {"-9:", -9, 2},
		{"9223372036854775807x", api.MaxInt, 19}, {"-9223372036854775808x", api.MinInt, 20},
		{"9223372036854775808", 922337203685477580, 18}, {"-9223372036854775809", -922337203685477580, 19},
		{"9223372036854775809", 922337203685477580, 18}, {"9223372036854775810", 922337203685477581, 18},
		{"92233720368547758070", api.MaxInt, 19}, {"-92233720368547758080", api.MinInt, 20},
		{"9999999999999999999", 999999999999999999, 18}, {"-9999999999999999999", -999999999999999999, 19},
		{"18446744073709551617", 1844674407370955161, 19}, {"-18446744073709551617", -1844674407370955161, 20},
		{"10000000000000000000", 1000000000000000000, 19}, {"-10000000000000000000", -1000000000000000000, 20},
		{strings.Repeat("9", 1000), 999999999999999999, 18}, {strings.Repeat("1", 1000), 1111111111111111111, 19},
		{strings.Repeat("0", 1000), 0, 1}, {strings.Repeat("-", 1000), 0, 0},
	}
	for _, c := range texts {
		wantTake(t, c.s, c.n, c.long)
	}
}

// De1, De3: of all short texts, Parse tells those that are a number's text, and Take the longest beginning that is one.
func TestAllShortTexts(t *testing.T) {
	each("-+0129, a", 5, func(s string) {
		if n, ok := isText(s); ok {
			wantParse(t, s, n, api.OK)
		} else {
			wantParse(t, s, 0, api.ErrForm)
		}
		wantTakeByWords(t, s)
	})
}

// De1, De3: so it is with each text near the ends of ints, of whatever digits.
func TestTextsNearTheEnds(t *testing.T) {
	for _, sign := range []string{"", "-"} {
		for _, stem := range []string{"92233720368547758", "9223372036854775", "18446744073709551", "9999999999999999", "1000000000000000"} {
			each("0456789", 4, func(s string) {
				whole := sign + stem + s
				if n, ok := isText(whole); ok {
					wantParse(t, whole, n, api.OK)
				} else {
					wantParse(t, whole, 0, api.ErrForm)
				}
				wantTakeByWords(t, whole)
			})
		}
	}
}

// wantTakeByWords holds Take against the document's words: of all beginnings the longest one that is a number's text.
func wantTakeByWords(t *testing.T, s string) {
	t.Helper()
	n, long := 0, 0
	for end := 1; end <= len(s); end++ {
		if m, ok := isText(s[:end]); ok {
			n, long = m, end
		}
	}
	wantTake(t, s, n, long)
}

// De2: the texts of lists, and back.
func TestList(t *testing.T) {
	lists := []struct {
		l    []int
		text string
	}{
		{nil, ""}, {[]int{}, ""}, {[]int{0}, "0"}, {[]int{-1}, "-1"}, {[]int{3, -40}, "3,-40"},
		{[]int{0, 0, 0}, "0,0,0"}, {[]int{-1, 0, 0}, "-1,0,0"}, {[]int{1, 1, 1, 2, 2, 2}, "1,1,1,2,2,2"},
		{[]int{api.MinInt, api.MaxInt}, "-9223372036854775808,9223372036854775807"},
	}
	for _, c := range lists {
		if s := List(c.l...); s != c.text {
			t.Errorf("List(%v): %q; want %q", c.l, s, c.text)
		}
		wantNumbers(t, c.text, c.l, api.OK)
	}
	if s := List(); s != "" {
		t.Errorf("List of none: %q", s)
	}
}

// De2: the example of the chapter.
func TestExample(t *testing.T) {
	if s := List(3, -40); s != "3,-40" {
		t.Error(s)
	}
}

// De2: a text that is no list's is ErrForm, wherever it is wrong, and beside it stands no number (R2).
func TestNumbersWrong(t *testing.T) {
	for _, s := range []string{",", ",,", "1,", ",1", "1,,2", "1, 2", "1 ,2", " 1,2", "1,2 ", "1;2", "1.2", "1,2\n", "1,-", "1,2,", ",1,2", "1\uff0c2", "1,2,x"} {
		wantNumbers(t, s, nil, api.ErrForm)
	}
	for _, s := range wrong() {
		for _, text := range []string{s, "3," + s, s + ",3", "0,-1," + s + ",2"} {
			wantNumbers(t, text, nil, api.ErrForm)
		}
	}
}

// De2, De3: of all short texts, Numbers tells those that are a list's: each piece between commas is a number's text.
func TestAllShortLists(t *testing.T) {
	each("-019, ", 6, func(s string) {
		var want []int
		err := api.OK
		for _, piece := range strings.Split(s, ",") {
			n, ok := isText(piece)
			if !ok && s != "" {
				want, err = nil, api.ErrForm
				break
			}
			if ok {
				want = append(want, n)
			}
		}
		wantNumbers(t, s, want, err)
		if l, e := Numbers(s); e == api.OK && List(l...) != s {
			t.Errorf("%q are the numbers %v, whose text is %q", s, l, List(l...))
		}
	})
}

// De3: each number comes back from its text, and no two have the same one.
func TestNumbersComeBack(t *testing.T) {
	of := map[string]int{}
	for _, n := range many() {
		s := Text(n)
		wantParse(t, s, n, api.OK)
		wantTake(t, s+"x", n, len(s))
		wantTake(t, s+"-", n, len(s))
		if m, was := of[s]; was && m != n {
			t.Errorf("%d and %d have the same text %q", n, m, s)
		}
		of[s] = n
	}
}

// De3: lists of all lengths come back from their texts, and no two have the same one.
func TestListsComeBack(t *testing.T) {
	all := many()
	of := map[string]int{}
	for long := range 200 {
		l := all[long : 2*long]
		s := List(l...)
		if _, was := of[s]; was {
			t.Errorf("two lists have the text %q", s)
		}
		of[s] = long
		wantNumbers(t, s, l, api.OK)
	}
	wantNumbers(t, List(all...), all, api.OK)
}

// R1: long texts and lists end, whether they are right or wrong.
func TestLong(t *testing.T) {
	l := make([]int, 100000)
	for i := range l {
		l[i] = i * -977
	}
	s := List(l...)
	wantNumbers(t, s, l, api.OK)
	if n, err := Numbers(s + ","); n != nil || err != api.ErrForm {
		t.Error(len(n), err)
	}
	for _, c := range []string{"9", "0", "-", ",", "1,"} {
		text := strings.Repeat(c, 1000000)
		if n, err := Parse(text); n != 0 || err != api.ErrForm {
			t.Error(c, n, err)
		}
		if n, err := Numbers(text); n != nil || err != api.ErrForm {
			t.Error(c, len(n), err)
		}
	}
}

// R3, R4: what is handed in stays as it is, what is told is new memory, and the same calls come to the same.
func TestListsAreNew(t *testing.T) {
	l := []int{5, -6, 7}
	s := List(l...)
	if !slices.Equal(l, []int{5, -6, 7}) {
		t.Error("List changes what it is given", l)
	}
	l[1] = 8
	if s != "5,-6,7" {
		t.Error("a text changes with the list", s)
	}
	a, _ := Numbers(s)
	b, _ := Numbers(s)
	a[0] = 70
	a = append(a, 71)
	if !slices.Equal(b, []int{5, -6, 7}) || len(a) != 4 {
		t.Error("two lists that were told share memory", a, b)
	}
	wantNumbers(t, s, []int{5, -6, 7}, api.OK)
}
