package line

import (
	"slices"
	"strings"
	"testing"
	"unsafe"
)

// each hands out all texts of some bytes, up to a length.
func each(bytes string, most int, see func(s string)) {
	see("")
	last := []string{""}
	for range most {
		var next []string
		for _, s := range last {
			for i := range len(bytes) {
				longer := s + bytes[i:i+1]
				see(longer)
				next = append(next, longer)
			}
		}
		last = next
	}
}

func wantLines(t *testing.T, s string, lines []string) {
	t.Helper()
	if l := Lines(s); !slices.Equal(l, lines) {
		t.Errorf("Lines(%q): %q; want %q", s, l, lines)
	}
}

func wantWords(t *testing.T, s string, words []string) {
	t.Helper()
	if w := Words(s); !slices.Equal(w, words) {
		t.Errorf("Words(%q): %q; want %q", s, w, words)
	}
}

func wantHead(t *testing.T, s, word, rest string) {
	t.Helper()
	if w, r := Head(s); w != word || r != rest {
		t.Errorf("Head(%q): %q, %q; want %q, %q", s, w, r, word, rest)
	}
}

func wantText(t *testing.T, lines []string, text string) {
	t.Helper()
	if s := Text(lines...); s != text {
		t.Errorf("Text(%q): %q; want %q", lines, s, text)
	}
}

// Li1: a line ends ahead of a byte 10 or of the text's end, and behind a last byte 10 there is none more.
func TestLines(t *testing.T) {
	texts := []struct {
		s     string
		lines []string
	}{
		{"", nil}, {"\n", []string{""}}, {"\n\n", []string{"", ""}}, {"\n\n\n", []string{"", "", ""}},
		{"a", []string{"a"}}, {"a\n", []string{"a"}}, {"a\n\n", []string{"a", ""}},
		{"\na", []string{"", "a"}}, {"\na\n", []string{"", "a"}}, {"\n\na", []string{"", "", "a"}},
		{"a\nb", []string{"a", "b"}}, {"a\nb\n", []string{"a", "b"}}, {"a\n\nb", []string{"a", "", "b"}},
		{" ", []string{" "}}, {" \n\t", []string{" ", "\t"}}, {" a  b \n\tc\t\n", []string{" a  b ", "\tc\t"}},
		{"nodes -1,0\nthreads 1,1\n", []string{"nodes -1,0", "threads 1,1"}},
	}
	for _, c := range texts {
		wantLines(t, c.s, c.lines)
	}
}

// Li1: no byte but 10 ends a line.
func TestOtherBytesEndNoLine(t *testing.T) {
	for b := range 256 {
		one := string([]byte{byte(b)})
		want := []string{"x" + one + "y"}
		if b == 10 {
			want = []string{"x", "y"}
		}
		wantLines(t, "x"+one+"y", want)
		wantLines(t, "x"+one+"y\n", want)
	}
	for _, s := range []string{"\r", "a\r", "\v\f", "a\u2028b", "a\u0085b", "\u000b", "\u010a", "\u0a0a"} {
		wantLines(t, s, []string{s})
	}
	wantLines(t, "a\r\nb\r\n", []string{"a\r", "b\r"})
	wantLines(t, "\xff\n\xe4\xbd\n\x80", []string{"\xff", "\xe4\xbd", "\x80"})
}

// Li1: words stand between blanks, which are the bytes 32 and 9, however many and mixed, and the line's ends.
func TestWords(t *testing.T) {
	texts := []struct {
		s     string
		words []string
	}{
		{"", nil}, {" ", nil}, {"\t", nil}, {" \t \t\t  ", nil},
		{"a", []string{"a"}}, {" a", []string{"a"}}, {"a ", []string{"a"}}, {"\ta\t", []string{"a"}}, {"  \ta \t ", []string{"a"}},
		{"a b", []string{"a", "b"}}, {"a\tb", []string{"a", "b"}}, {"a \tb", []string{"a", "b"}}, {"a\t b", []string{"a", "b"}},
		{"ab cd", []string{"ab", "cd"}}, {" \tab\t cd ", []string{"ab", "cd"}}, {"a a a", []string{"a", "a", "a"}},
		{"lock tas 1 1 1 0", []string{"lock", "tas", "1", "1", "1", "0"}},
		{"1,2 ,3", []string{"1,2", ",3"}}, {"0l 1s\t2u", []string{"0l", "1s", "2u"}},
	}
	for _, c := range texts {
		wantWords(t, c.s, c.words)
	}
}

// Li1: no byte but 32 and 9 is a blank, not even a line's end, when it stands within what is told to be a line.
func TestOtherBytesAreNoBlanks(t *testing.T) {
	for b := range 256 {
		one := string([]byte{byte(b)})
		if b == 32 || b == 9 {
			wantWords(t, one+"x"+one+one+"y"+one, []string{"x", "y"})
			wantHead(t, one+one+"x"+one+"y"+one, "x", one+"y"+one)
			continue
		}
		wantWords(t, one, []string{one})
		wantWords(t, "x"+one+"y "+one+" z", []string{"x" + one + "y", one, "z"})
		wantHead(t, one, one, "")
		wantHead(t, " x"+one+"y z", "x"+one+"y", " z")
	}
	for _, s := range []string{"\r", "\v\f", "a\nb", "\u00a0", "a\u0085b", "\u2003", "a\u3000b", "\u0120", "\u2009", "\ufeff", "\ufffd", "\xff\xfe", "\xe2\x80"} {
		wantWords(t, s, []string{s})
		wantWords(t, "\t"+s+" "+s, []string{s, s})
		wantHead(t, " "+s+"\t", s, "\t")
	}
}

// Li1: the first word, and all that is behind it, with the blanks there; nothing of a line without words.
func TestHead(t *testing.T) {
	lines := []struct{ s, word, rest string }{
		{"", "", ""}, {" ", "", ""}, {"\t", "", ""}, {" \t  ", "", ""},
		{"a", "a", ""}, {"ab", "ab", ""}, {" a", "a", ""}, {"\t a", "a", ""}, {"a ", "a", " "}, {" a\t ", "a", "\t "},
		{"a b", "a", " b"}, {"a  b", "a", "  b"}, {"a\tb", "a", "\tb"}, {" \ta\t b c ", "a", "\t b c "},
		{"play 0l 0s", "play", " 0l 0s"}, {"at", "at", ""}, {"a\nb c", "a\nb", " c"}, {"a \nb", "a", " \nb"},
	}
	for _, c := range lines {
		wantHead(t, c.s, c.word, c.rest)
	}
}

// Li1: the example of the chapter.
func TestExample(t *testing.T) {
	wantWords(t, "a  b", []string{"a", "b"})
}

// Li2: each line has a byte 10 behind it.
func TestText(t *testing.T) {
	lists := []struct {
		lines []string
		text  string
	}{
		{nil, ""}, {[]string{}, ""}, {[]string{""}, "\n"}, {[]string{"", ""}, "\n\n"},
		{[]string{"a"}, "a\n"}, {[]string{"a", "b"}, "a\nb\n"}, {[]string{"", "a"}, "\na\n"}, {[]string{"a", ""}, "a\n\n"},
		{[]string{" a ", "\t", "b c"}, " a \n\t\nb c\n"}, {[]string{"a\r", "\xff"}, "a\r\n\xff\n"},
		{[]string{"a\nb", "\n"}, "a\nb\n\n\n"},
	}
	for _, c := range lists {
		wantText(t, c.lines, c.text)
	}
	if s := Text(); s != "" {
		t.Errorf("Text of none: %q", s)
	}
	if s := Text("nodes -1", "threads 0,0"); s != "nodes -1\nthreads 0,0\n" {
		t.Errorf("Text of two: %q", s)
	}
}

// linesByBytes are a text's lines, told byte by byte in the chapter's words.
func linesByBytes(s string) []string {
	var out []string
	from := 0
	for i := range len(s) {
		if s[i] == 10 {
			out = append(out, s[from:i])
			from = i + 1
		}
	}
	if from < len(s) {
		out = append(out, s[from:])
	}
	return out
}

// placesOfWords are where a line's words begin and end, told byte by byte in the chapter's words.
func placesOfWords(s string) [][2]int {
	blank := func(i int) bool { return i < 0 || i >= len(s) || s[i] == 32 || s[i] == 9 }
	var out [][2]int
	for i := range len(s) {
		if blank(i) {
			continue
		}
		if blank(i - 1) {
			out = append(out, [2]int{i, i})
		}
		out[len(out)-1][1] = i + 1
	}
	return out
}

// Li1 to Li3: all short texts, held against the chapter's words byte by byte.
func TestAllShortTexts(t *testing.T) {
	each("a \t\nb\r\xff", 6, func(s string) {
		lines := linesByBytes(s)
		wantLines(t, s, lines)
		text := s
		if s != "" && !strings.HasSuffix(s, "\n") {
			text += "\n"
		}
		wantText(t, lines, text)
		var words []string
		places := placesOfWords(s)
		for _, p := range places {
			words = append(words, s[p[0]:p[1]])
		}
		wantWords(t, s, words)
		if places == nil {
			wantHead(t, s, "", "")
		} else {
			wantHead(t, s, words[0], s[places[0][1]:])
		}
	})
}

// pieces are texts of all short forms, without a byte 10.
func pieces() []string {
	var out []string
	each("a \t", 3, func(s string) { out = append(out, s) })
	return append(out, "lock tas 1 1 1 0", "\r", "\v", "\xff\xfe", "\u2028", "\x00", strings.Repeat("x ", 500))
}

// Li3: lines come back from their text, if none has a byte 10.
func TestLinesComeBack(t *testing.T) {
	all := pieces()
	wantLines(t, Text(), nil)
	wantLines(t, Text(all...), all)
	for _, a := range all {
		wantLines(t, Text(a), []string{a})
		for _, b := range all {
			wantLines(t, Text(a, b), []string{a, b})
			wantLines(t, Text(b, "", a), []string{b, "", a})
		}
	}
}

// Li3: the words of a line are its Head's, and those of the rest.
func TestWordsAreHeads(t *testing.T) {
	each("a \t\nb", 6, func(s string) {
		var words []string
		for word, rest := Head(s); word != ""; word, rest = Head(rest) {
			words = append(words, word)
			wantWords(t, s, append(slices.Clone(words), Words(rest)...))
		}
		wantWords(t, s, words)
	})
}

// R1: long texts end, whatever they are made of.
func TestLong(t *testing.T) {
	const many = 1000000
	forms := []struct {
		one          string
		lines, words int
	}{
		{"\n", many, 1}, {" ", 1, 0}, {"\t", 1, 0}, {"a", 1, 1}, {"a ", 1, many}, {"a\n", many, 1}, {" \n", many, many}, {"\xff\t", 1, many},
	}
	for _, c := range forms {
		s := strings.Repeat(c.one, many)
		l, w := Lines(s), Words(s)
		if len(l) != c.lines || len(w) != c.words {
			t.Errorf("%q many times: %d lines, %d words; want %d, %d", c.one, len(l), len(w), c.lines, c.words)
		}
		if back := Text(l...); back != s && back != s+"\n" {
			t.Errorf("%q many times: another text comes back", c.one)
		}
		if word, rest := Head(s); c.words == 0 && word+rest != "" || c.words > 0 && word != w[0] {
			t.Errorf("%q many times: not the first word", c.one)
		}
	}
}

// shared tells whether two texts share memory.
func shared(a, b string) bool {
	if a == "" || b == "" {
		return false
	}
	from, at := uintptr(unsafe.Pointer(unsafe.StringData(a))), uintptr(unsafe.Pointer(unsafe.StringData(b)))
	return from < at+uintptr(len(b)) && at < from+uintptr(len(a))
}

// R3: what is answered is new memory: it shares none with what was handed in.
func TestAnswersAreNew(t *testing.T) {
	for _, s := range []string{"word", "two words", "  a  b  ", "one\ntwo lines\n", "\n"} {
		s = strings.Clone(s)
		answers := append(Lines(s), Words(s)...)
		word, rest := Head(s)
		for _, a := range append(answers, word, rest, Text(s)) {
			if shared(a, s) {
				t.Errorf("%q shares memory with the %q that was handed in", a, s)
			}
		}
	}
}

// R3, R4: what is handed in stays as it is, lists that are told share nothing, and the same calls come to the same.
func TestListsAreNew(t *testing.T) {
	lines := make([]string, 2, 3)
	lines[0], lines[1] = "a b", "c"
	s := Text(lines...)
	if !slices.Equal(lines, []string{"a b", "c"}) || lines[:3][2] != "" {
		t.Error("Text changes what it is given", lines[:3])
	}
	lines[0] = "x"
	if s != "a b\nc\n" {
		t.Error("a text changes with the lines", s)
	}
	for _, told := range []func(string) []string{Lines, Words} {
		a, b := told("a\nb c"), told("a\nb c")
		want := slices.Clone(b)
		a[0] = "x"
		a = append(a, "y")
		if !slices.Equal(b, want) || !slices.Equal(told("a\nb c"), want) || len(a) != len(want)+1 {
			t.Error("two lists that were told share memory", a, b)
		}
	}
}
