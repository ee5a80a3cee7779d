package pick

import (
	"fmt"
	"kissgate/api"
	"regexp"
	"slices"
	"strconv"
	"strings"
	"testing"
)

// plainWord is what a pick's word looks like, by the chapter's words.
var plainWord = regexp.MustCompile(`^(0|-?[1-9][0-9]*)([slurv])$`)

// plainPick is the pick of a word, and whether it is one.
func plainPick(word string) (api.Pick, bool) {
	parts := plainWord.FindStringSubmatch(word)
	if parts == nil {
		return api.Pick{}, false
	}
	thread, err := strconv.Atoi(parts[1])
	if err != nil {
		return api.Pick{}, false
	}
	want := map[string]int{"s": api.WantStep, "l": api.WantLock, "u": api.WantUnlock, "r": api.WantRLock, "v": api.WantRUnlock}[parts[2]]
	return api.Pick{Thread: thread, Want: want}, true
}

// plainWords are the words of all lines: what stands between line ends, blanks and ends.
func plainWords(s string) []string {
	return strings.FieldsFunc(s, func(r rune) bool { return r == '\n' || r == ' ' || r == '\t' })
}

// plainParse is Parse, word by word.
func plainParse(s string) ([]api.Pick, int, api.Errno) {
	var out []api.Pick
	for i, word := range plainWords(s) {
		p, ok := plainPick(word)
		switch {
		case !ok:
			return nil, i, api.ErrForm
		case i == 4000:
			return nil, 4000, api.ErrMany
		}
		out = append(out, p)
	}
	return out, 0, api.OK
}

// short is a text as a message can show it.
func short(s string) string {
	if len(s) > 60 {
		return fmt.Sprintf("%q.. (%d bytes)", s[:60], len(s))
	}
	return strconv.Quote(s)
}

func wantParse(t *testing.T, s string, l []api.Pick, at int, err api.Errno) {
	t.Helper()
	got, gotAt, gotErr := Parse(s)
	if !slices.Equal(got, l) || gotAt != at || gotErr != err {
		t.Errorf("Parse(%s): %d picks, %d, %d; want %d picks, %d, %d", short(s), len(got), gotAt, gotErr, len(l), at, err)
	}
}

func wantText(t *testing.T, l []api.Pick, s string, err api.Errno) {
	t.Helper()
	if got, gotErr := Text(l...); got != s || gotErr != err {
		t.Errorf("Text of %d picks: %s, %d; want %s, %d", len(l), short(got), gotErr, short(s), err)
	}
}

// many are so many picks of thread 0 that wants nothing.
func many(n int) []api.Pick {
	return make([]api.Pick, n)
}

// strange are threads of all sorts: a pick's thread is any number.
var strange = []int{0, 1, 9, 10, 31, 32, -1, -10, 1 << 32, api.MaxInt, api.MinInt}

// Pi1 and the chapter's example: the words of all, with a blank between two.
func TestText(t *testing.T) {
	wantText(t, []api.Pick{{Thread: 0, Want: api.WantLock}, {Thread: 1, Want: api.WantStep}}, "0l 1s", api.OK)
	wantText(t, []api.Pick{{Thread: 7, Want: api.WantUnlock}}, "7u", api.OK)
	wantText(t, []api.Pick{{Thread: 31, Want: api.WantRLock}, {Thread: 31, Want: api.WantRUnlock}, {Thread: 31}}, "31r 31v 31s", api.OK)
	wantText(t, nil, "", api.OK)
	wantText(t, []api.Pick{}, "", api.OK)
	for _, thread := range strange {
		for want, letter := range []string{"s", "l", "u", "r", "v"} {
			wantText(t, []api.Pick{{Thread: thread, Want: want}}, strconv.Itoa(thread)+letter, api.OK)
		}
	}
}

// Pi1: ErrArg, if one wants none of the five, wherever it stands.
func TestTextArg(t *testing.T) {
	for _, want := range []int{-1, 5, 6, 7, 8, 256, 1 << 32, api.MaxInt, api.MinInt} {
		bad := api.Pick{Thread: 1, Want: want}
		wantText(t, []api.Pick{bad}, "", api.ErrArg)
		wantText(t, []api.Pick{bad, {}, {}}, "", api.ErrArg)
		wantText(t, []api.Pick{{}, {}, bad}, "", api.ErrArg)
	}
}

// Pi1: ErrMany, if there are more than MaxScript, also if one of them wants none of the five (R2).
func TestTextMany(t *testing.T) {
	wantText(t, many(3999), strings.Repeat("0s ", 3998)+"0s", api.OK)
	wantText(t, many(4000), strings.Repeat("0s ", 3999)+"0s", api.OK)
	wantText(t, many(4001), "", api.ErrMany)
	wantText(t, many(100000), "", api.ErrMany)
	bad := api.Pick{Want: 5}
	wantText(t, append(many(3999), bad), "", api.ErrArg)
	wantText(t, append(many(4000), bad), "", api.ErrMany)
	wantText(t, append([]api.Pick{bad}, many(4000)...), "", api.ErrMany)
}

// Pi1 and the chapter's example: the picks of layer 4's words of all lines.
func TestParse(t *testing.T) {
	wantParse(t, "0l 1s", []api.Pick{{Thread: 0, Want: api.WantLock}, {Thread: 1, Want: api.WantStep}}, 0, api.OK)
	wantParse(t, "\n\t 7u\t12r  \n\n-3v\n", []api.Pick{{Thread: 7, Want: api.WantUnlock}, {Thread: 12, Want: api.WantRLock}, {Thread: -3, Want: api.WantRUnlock}}, 0, api.OK)
	wantParse(t, "", nil, 0, api.OK)
	wantParse(t, " \n\t\n \n", nil, 0, api.OK)
	for _, thread := range strange {
		for want, letter := range []string{"s", "l", "u", "r", "v"} {
			wantParse(t, strconv.Itoa(thread)+letter, []api.Pick{{Thread: thread, Want: want}}, 0, api.OK)
		}
	}
}

// Pi1: ErrForm, and which word is the first one that is none.
func TestParseForm(t *testing.T) {
	for _, word := range []string{
		"s", "0", "l0", "0x", "0S", "0L", "00s", "01s", "-0s", "-s", "+1s", "--1s", "1-s", "0ss", "0sl", "0s,", "0,s", "0l1s", "0s'",
		"9223372036854775808s", "-9223372036854775809s", "99999999999999999999s", "1.0s", "0x1s", "1e1s", "１s", "0ｓ", "0ſ", "0\xf3",
		"0s\r", "0\u00a0s", "\v0s", "0s\x00", "\xff", "é", "0sé", "0és",
	} {
		wantParse(t, word, nil, 0, api.ErrForm)
		wantParse(t, "0s "+word, nil, 1, api.ErrForm)
		wantParse(t, "0s\n1l 2u\n"+word+"\n3s "+word, nil, 3, api.ErrForm)
	}
	wantParse(t, "0 s", nil, 0, api.ErrForm)
	wantParse(t, "0s\n1 l", nil, 1, api.ErrForm)
}

// Pi1: ErrMany, and MaxScript, if one word more than that are words; whichever is wrong ahead of it, or instead of it, is told instead.
func TestParseMany(t *testing.T) {
	words := func(n int, between string) string { return strings.Repeat("0s"+between, n) }
	for _, between := range []string{" ", "\n", " \t\n "} {
		wantParse(t, words(3999, between), many(3999), 0, api.OK)
		wantParse(t, words(4000, between), many(4000), 0, api.OK)
		wantParse(t, words(4001, between), nil, 4000, api.ErrMany)
		wantParse(t, words(9000, between), nil, 4000, api.ErrMany)
		wantParse(t, words(3999, between)+"x", nil, 3999, api.ErrForm)
		wantParse(t, words(4000, between)+"x", nil, 4000, api.ErrForm)
		wantParse(t, words(4000, between)+"x"+between+words(5, between), nil, 4000, api.ErrForm)
		wantParse(t, words(4001, between)+"x", nil, 4000, api.ErrMany)
		wantParse(t, "x"+between+words(4001, between), nil, 0, api.ErrForm)
	}
}

// Pi1: all short texts of the bytes that count are parsed as the chapter's words say.
func TestParseShort(t *testing.T) {
	const bytes = "01-slv \n\tx"
	var longer func(s string)
	longer = func(s string) {
		l, at, err := plainParse(s)
		wantParse(t, s, l, at, err)
		for i := 0; i < len(bytes) && len(s) < 5; i++ {
			longer(s + bytes[i:i+1])
		}
	}
	longer("")
}

// Pi2: of each byte a pick, by what it is and by nothing else.
func TestDecode(t *testing.T) {
	for b := range 256 {
		want := b % 8
		if want > 4 {
			want = api.WantStep
		}
		one := string([]byte{byte(b)})
		for _, s := range []string{one, one + one, "\xe2\x82\xac" + one} {
			l := Decode(s)
			if len(l) != len(s) {
				t.Fatalf("Decode(%q): %d picks; want %d", s, len(l), len(s))
			}
			if got := l[len(l)-1]; got != (api.Pick{Thread: b / 8, Want: want}) {
				t.Errorf("Decode(%q): %v; want thread %d, that wants %d", s, got, b/8, want)
			}
		}
	}
	want := []api.Pick{{Thread: 0, Want: 1}, {Thread: 31, Want: 0}, {Thread: 28, Want: 2}}
	if got := Decode("\x01\xff\xe2"); !slices.Equal(got, want) {
		t.Errorf("Decode of three bytes: %v; want %v", got, want)
	}
	if got := Decode(""); len(got) != 0 {
		t.Errorf("Decode of the empty text: %v", got)
	}
}

// Pi2: Decode goes by the first MaxScript bytes.
func TestDecodeMany(t *testing.T) {
	for _, n := range []int{3999, 4000, 4001, 100000} {
		s := strings.Repeat("\x0a", min(n, 4000)-1) + "\x0b" + strings.Repeat("\xff", max(n, 4000)-4000)
		l := Decode(s)
		if len(l) != min(n, 4000) || l[0] != (api.Pick{Thread: 1, Want: 2}) || l[len(l)-1] != (api.Pick{Thread: 1, Want: 3}) {
			t.Errorf("Decode of %d bytes: %d picks, the last one %v", n, len(l), l[len(l)-1])
		}
	}
}

// Pi2: Want tells the five letters, and no other byte.
func TestWant(t *testing.T) {
	says := map[byte]int{'s': 0, 'l': 1, 'u': 2, 'r': 3, 'v': 4}
	for b := range 256 {
		want, ok := says[byte(b)]
		if got, gotOk := Want(byte(b)); got != want || gotOk != ok {
			t.Errorf("Want(%q): %d, %v; want %d, %v", byte(b), got, gotOk, want, ok)
		}
	}
}

// Pi2: Threads are those of all picks, whatever they want, and however many there are.
func TestThreads(t *testing.T) {
	l := []api.Pick{{Thread: 3, Want: 1}, {Thread: 0}, {Thread: 3, Want: 99}, {Thread: -1, Want: -1}, {Thread: api.MinInt}}
	if got := Threads(l...); !slices.Equal(got, []int{3, 0, 3, -1, api.MinInt}) {
		t.Errorf("Threads: %v", got)
	}
	if got := Threads(); len(got) != 0 {
		t.Errorf("Threads of none: %v", got)
	}
	if got := Threads(many(10000)...); len(got) != 10000 {
		t.Errorf("Threads of 10000: %d", len(got))
	}
}

// Pi3: picks come back from their text.
func TestBack(t *testing.T) {
	wantBack := func(l []api.Pick) {
		t.Helper()
		s, err := Text(l...)
		if err != api.OK {
			t.Fatalf("Text of %d picks: %d", len(l), err)
		}
		wantParse(t, s, l, 0, api.OK)
	}
	var all []api.Pick
	for _, thread := range strange {
		for want := range 5 {
			all = append(all, api.Pick{Thread: thread, Want: want})
			wantBack(all)
		}
	}
	wantBack(nil)
	wantBack(many(4000))
	wantBack(Decode(strings.Repeat("\x00\x09\x12\x1b\x24\xfd", 1000)))
}

// Pi3: a text is that of its picks, but for blanks.
func TestTextBack(t *testing.T) {
	for _, s := range []string{"0l 1s", "  0l\t\t1s\n\n-2u 30r\n31v \n", "", "\n", strings.Repeat("5v\n", 4000)} {
		l, _, err := Parse(s)
		if err != api.OK {
			t.Fatalf("Parse(%s): %d", short(s), err)
		}
		wantText(t, l, strings.Join(plainWords(s), " "), api.OK)
	}
}

// R3: what is handed in is not changed, and what is answered is new memory.
func TestNewMemory(t *testing.T) {
	l := []api.Pick{{Thread: 1, Want: 1}, {Thread: 2, Want: 2}}
	kept := slices.Clone(l)
	threads := Threads(l...)
	threads[0] = 9
	Text(l...)
	if !slices.Equal(l, kept) || !slices.Equal(Threads(l...), []int{1, 2}) {
		t.Errorf("what was handed in: %v", l)
	}
	for _, make := range []func() []api.Pick{
		func() []api.Pick { p, _, _ := Parse("1l 2u"); return p },
		func() []api.Pick { return Decode("\x09\x12") },
	} {
		a, b := make(), make()
		a[0].Thread = 9
		if !slices.Equal(b, kept) || !slices.Equal(make(), kept) {
			t.Errorf("answers share memory: %v", b)
		}
	}
}

// R1: long and strange texts end, and none panics.
func TestLong(t *testing.T) {
	wantParse(t, strings.Repeat("9", 1<<20)+"s", nil, 0, api.ErrForm)
	wantParse(t, strings.Repeat("-", 1<<20), nil, 0, api.ErrForm)
	wantParse(t, strings.Repeat(" \n", 1<<20)+"0s", many(1), 0, api.OK)
	wantParse(t, strings.Repeat("0s ", 1<<18), nil, 4000, api.ErrMany)
	wantParse(t, strings.Repeat("\xff", 1<<20), nil, 0, api.ErrForm)
}
