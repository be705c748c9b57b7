package mark_test

import (
	"math"
	"math/rand"
	"slices"
	"strings"
	"testing"
	"unicode"

	"letterbox/api"
	"letterbox/mark"
)

// words are those of the flags 1, 2, 4, 8, 16.
var words = []string{`\Seen`, `\Answered`, `\Flagged`, `\Deleted`, `\Draft`}

const all = `(\Seen \Answered \Flagged \Deleted \Draft)`

// noWords are none of the five.
var noWords = []string{
	// an empty one, and parts of one
	"", `\`, `\\`, `\S`, `\Se`, `\See`, `\D`, `\Dr`, `\A`, "S", "een",
	// without its stroke, or with another one
	"Seen", "Answered", "Flagged", "Deleted", "Draft", "seen", "DRAFT",
	"/Seen", "|Seen", "$Seen", "-Seen", `\\Seen`, `\/Seen`, `"\Seen"`, `'\Seen'`, "\uff3cSeen", "\u2216Seen",
	// with a blank, or what is like one
	" ", `\Seen `, ` \Seen`, `\ Seen`, `\Se en`, "\\Seen\t", "\t\\Seen", "\\Seen\n", "\\Seen\r\n", "\\Seen\u00a0", "\u200b\\Seen", "\ufeff\\Seen",
	// a letter or a byte more, or less, or another one
	`\Seenn`, `\SSeen`, `\Sen`, `\een`, `\Seem`, `\Answer`, `\Answere`, `\Answereds`, `\Flag`, `\Flagge`, `\Flaged`, `\Delete`, `\Deletes`, `\Draf`, `\Drafts`, `\Seen1`,
	"\\Seen\x00", "\x00\\Seen", "\\S\x00een", `\Seen\`, `\Seen.`, `\Seen*`, `\Seen(`,
	// two at once, and what Print tells
	`\Seen\Draft`, `\Seen \Draft`, `\Seen,\Draft`, "()", `(\Seen)`, `(\Seen`, `\Seen)`, all, all[1 : len(all)-1],
	// the words of others
	`\Recent`, `\Unseen`, `\*`, `\All`, `\Junk`, "$Forwarded", "Recent", "0", "1", "31", "NIL", "+FLAGS",
	// letters beyond A to Z that fold to one, or look like one
	"\\\u017feen", "\\\u017fEEN", "\\An\u017fwered", "\\S\u00e9en", "\\Se\u0435n", "\\\u0405een", "\\See\u0274", "\\\uff33\uff45\uff45\uff4e", "\\Seen\u0301", "\\Dra\ufb01", "\\Dra\ufb02t", "\\F\u212aagged",
	// bytes that are no letters
	"\xff", "\\\xff\xff\xff\xff", "\\See\x80", "\\\xd3een", "\\\xf3een", "\\Se\x05n", "\\Se\x25n", "\\s\xe5en", "\\See\xee", "\xdcSeen", "\\\xc5\xbf\xe9en", "\\\xbfeen", "<Seen", "|SEEN", "\\@een", "\\[een", "\\`een", "\\{een",
}

// flagOf is the flag of a word, as the chapter has it; 0 of none.
func flagOf(word string) int {
	at := slices.IndexFunc(words, func(w string) bool { return small(w) == small(word) })
	if at < 0 {
		return 0
	}
	return 1 << at
}

// small is A to Z as a to z, byte by byte.
func small(s string) string {
	b := []byte(s)
	for i, c := range b {
		if 'A' <= c && c <= 'Z' {
			b[i] = c + 32
		}
	}
	return string(b)
}

// textOf is what Print is to tell: each place of five that has its bit.
func textOf(flags int) string {
	text := ""
	for place, word := range words {
		if flags>>place%2 != 0 {
			text += " " + word
		}
	}
	return "(" + strings.TrimPrefix(text, " ") + ")"
}

// wordsOf is the words of a text that Print told.
func wordsOf(text string) []string {
	return strings.Fields(text[1 : len(text)-1])
}

func expectFlags(t *testing.T, want int, l ...string) {
	t.Helper()
	if got, e := mark.Parse(l...); got != want || e != api.OK {
		t.Errorf("Parse of %.300q is %d, error %d; want %d", l, got, e, want)
	}
}

// expectRefused wants an error, and no flag beside it.
func expectRefused(t *testing.T, l ...string) {
	t.Helper()
	if got, e := mark.Parse(l...); got != 0 || e != api.ErrForm {
		t.Errorf("Parse of %.300q is %d, error %d", l, got, e)
	}
}

// expectWord wants of one word what is worked out without the package.
func expectWord(t *testing.T, word string) {
	t.Helper()
	if flag := flagOf(word); flag != 0 {
		expectFlags(t, flag, word)
	} else {
		expectRefused(t, word)
	}
}

func expectText(t *testing.T, flags int, want string) {
	t.Helper()
	if got := mark.Print(flags); got != want {
		t.Errorf("Print of %d is %q, want %q", flags, got, want)
	}
}

func expectApply(t *testing.T, mode, old, flags, want int) {
	t.Helper()
	if got := mark.Apply(mode, old, flags); got != want {
		t.Errorf("Apply with mode %d of %d with %d is %d, want %d", mode, old, flags, got, want)
	}
}

// P11.1: Parse

func TestParse(t *testing.T) {
	for _, c := range []struct {
		l    []string
		want int
	}{
		{nil, 0},
		{[]string{}, 0},
		{make([]string, 0, 5), 0},
		{[]string{`\Seen`}, api.Seen},
		{[]string{`\Answered`}, api.Answered},
		{[]string{`\Flagged`}, api.Flagged},
		{[]string{`\Deleted`}, api.Deleted},
		{[]string{`\Draft`}, api.Draft},
		{[]string{`\seen`}, 1},
		{[]string{`\answered`}, 2},
		{[]string{`\flagged`}, 4},
		{[]string{`\deleted`}, 8},
		{[]string{`\draft`}, 16},
		{[]string{`\SEEN`}, 1},
		{[]string{`\ANSWERED`}, 2},
		{[]string{`\FLAGGED`}, 4},
		{[]string{`\DELETED`}, 8},
		{[]string{`\DRAFT`}, 16},
		{[]string{`\sEEN`}, 1},
		{[]string{`\aNsWeReD`}, 2},
		{[]string{`\fLAGGEd`}, 4},
		{[]string{`\DELeted`}, 8},
		{[]string{`\draFT`}, 16},
		{[]string{`\Seen`, `\Seen`}, 1},
		{[]string{`\Draft`, `\draft`, `\DRAFT`}, 16},
		{[]string{`\Seen`, `\Deleted`}, 9},
		{[]string{`\Deleted`, `\Seen`}, 9},
		{[]string{`\Deleted`, `\Seen`, `\Deleted`, `\Seen`}, 9},
		{[]string{`\Flagged`, `\Deleted`, `\Draft`}, 28},
		{words, api.AllFlags},
		{[]string{`\dRAFT`, `\dELETED`, `\fLAGGED`, `\aNSWERED`, `\sEEN`}, api.AllFlags},
	} {
		expectFlags(t, c.want, c.l...)
	}
	expectFlags(t, 0)
}

// Each letter of each word is as good small or great.
func TestSmallAndGreatLetters(t *testing.T) {
	for place, word := range words {
		for set := range 1 << (len(word) - 1) {
			mixed := []byte(strings.ToLower(word))
			for at := range len(word) - 1 {
				if set>>at&1 == 1 {
					mixed[at+1] -= 'a' - 'A'
				}
			}
			expectFlags(t, 1<<place, string(mixed))
		}
	}
}

// TestShortLists goes through all lists of so few words.
func TestShortLists(t *testing.T) {
	var longer func(l []string, flags int)
	longer = func(l []string, flags int) {
		expectFlags(t, flags, l...)
		if len(l) == 5 {
			return
		}
		for place, word := range words {
			longer(append(slices.Clone(l), word), flags|1<<place)
		}
	}
	longer(nil, 0)
}

func TestNoWords(t *testing.T) {
	for _, none := range noWords {
		if flagOf(none) != 0 {
			t.Errorf("the test's own: %q is a word", none)
		}
		expectRefused(t, none)
		expectRefused(t, none, none)
		for _, word := range words {
			expectRefused(t, none, word)
			expectRefused(t, word, none)
			expectRefused(t, word, none, word)
		}
		for place := range len(words) + 1 {
			expectRefused(t, slices.Insert(slices.Clone(words), place, none)...)
		}
	}
}

// Each byte in place of another, one or two more, one less, and pieces alone.
func TestEachByteAtEachPlace(t *testing.T) {
	for _, word := range append([]string{`\SEEN`, `\answered`, `\fLAGGED`}, words...) {
		for at := range len(word) + 1 {
			for x := range 256 {
				c := string([]byte{byte(x)})
				expectRefused(t, word[:at]+c+word[at:])
				expectRefused(t, word[:at]+c+c+word[at:])
				if at < len(word) {
					expectWord(t, word[:at]+c+word[at+1:])
				}
			}
			if at < len(word) {
				expectRefused(t, word[:at]+word[at+1:])
			}
			expectWord(t, word[at:]+word[:at])
			for other := at + 1; other < len(word); other++ {
				expectRefused(t, word[at:other])
			}
		}
	}
}

// No letter beyond A to Z is one of a word, whatever it folds to.
func TestLettersBeyond(t *testing.T) {
	ascii := func(x rune) bool { return x <= unicode.MaxASCII }
	folds := 0
	for x := rune(unicode.MaxASCII + 1); x <= unicode.MaxRune; x++ {
		expectRefused(t, `\`+string(x)+"een")
		if !ascii(unicode.ToLower(x)) && !ascii(unicode.ToUpper(x)) && !ascii(unicode.SimpleFold(x)) {
			continue
		}
		folds++
		for _, word := range words {
			for at := range len(word) {
				expectRefused(t, word[:at]+string(x)+word[at+1:])
				expectRefused(t, word[:at]+string(x)+word[min(at+len(string(x)), len(word)):]) // as many bytes
			}
		}
	}
	if folds == 0 {
		t.Error("the test's own: no letter folds to one of A to Z")
	}
}

func TestRandomWords(t *testing.T) {
	r := rand.New(rand.NewSource(1))
	for range 100000 {
		l := make([]string, r.Intn(7))
		want, good := 0, true
		for i := range l {
			b := []byte(words[r.Intn(len(words))])
			for at := range b {
				if r.Intn(2) == 0 && b[at] >= 'A' && b[at] != '\\' {
					b[at] ^= 0x20
				}
			}
			if r.Intn(20) == 0 {
				b[r.Intn(len(b))] ^= byte(1 << r.Intn(8))
			}
			l[i] = string(b)
			want |= flagOf(l[i])
			good = good && flagOf(l[i]) != 0
		}
		if good {
			expectFlags(t, want, l...)
		} else {
			expectRefused(t, l...)
		}
	}
}

func TestVeryManyAndVeryLong(t *testing.T) {
	many := slices.Repeat(words[1:3], 1<<19)
	if got, e := mark.Parse(many...); got != api.Answered|api.Flagged || e != api.OK {
		t.Errorf("Parse of very many words is %d, error %d", got, e)
	}
	if got, e := mark.Parse(append(many, "Seen")...); got != 0 || e != api.ErrForm {
		t.Errorf("Parse of very many words, and one that is none, is %d, error %d", got, e)
	}
	for _, c := range []string{" ", "n", "\x00", "\xff", "\u017f", `\Seen`} {
		long := strings.Repeat(c, 1<<20)
		for _, word := range []string{long, long + `\Seen`, `\Seen` + long, `\` + long} {
			if got, e := mark.Parse(`\Seen`, word); got != 0 || e != api.ErrForm {
				t.Errorf("Parse of a word of %d bytes is %d, error %d", len(word), got, e)
			}
		}
	}
}

// P11.1: Print

// beyond are numbers without a flag of AllFlags, below 0 too.
var beyond = []int{0, 32, 64, 96, 128, 1 << 8, 1<<8 - 32, 1 << 16, 1 << 31, 1 << 32, 1 << 61, 1 << 62, math.MaxInt &^ 31, math.MinInt, math.MinInt + 32, -32, -64, -1 << 31, -1 << 40}

func TestPrint(t *testing.T) {
	for _, c := range []struct {
		flags int
		want  string
	}{
		{0, `()`},
		{api.Seen, `(\Seen)`},
		{api.Answered, `(\Answered)`},
		{api.Flagged, `(\Flagged)`},
		{api.Deleted, `(\Deleted)`},
		{api.Draft, `(\Draft)`},
		{3, `(\Seen \Answered)`},
		{api.Seen | api.Deleted, `(\Seen \Deleted)`},
		{17, `(\Seen \Draft)`},
		{24, `(\Deleted \Draft)`},
		{22, `(\Answered \Flagged \Draft)`},
		{14, `(\Answered \Flagged \Deleted)`},
		{30, `(\Answered \Flagged \Deleted \Draft)`},
		{15, `(\Seen \Answered \Flagged \Deleted)`},
		{api.AllFlags, all},
		{32, `()`},
		{33, `(\Seen)`},
		{48, `(\Draft)`},
		{63, all},
		{1<<62 + 9, `(\Seen \Deleted)`},
		{math.MaxInt, all},
		{-1, all},
		{-2, `(\Answered \Flagged \Deleted \Draft)`},
		{-9, `(\Seen \Answered \Flagged \Draft)`},
		{-16, `(\Draft)`},
		{-31, `(\Seen)`},
		{-32, `()`},
		{math.MinInt, `()`},
		{math.MinInt + 9, `(\Seen \Deleted)`},
	} {
		expectText(t, c.flags, c.want)
	}
}

func TestPrintOfAllFlags(t *testing.T) {
	for flags := range 32 {
		for _, more := range beyond {
			expectText(t, flags|more, textOf(flags))
		}
	}
	for flags := -5000; flags < 5000; flags++ {
		expectText(t, flags, textOf(flags))
	}
}

// P11.1: Apply

// noModes are none of the three.
var noModes = []int{-1, -2, -3, 3, 4, 5, 7, 8, 9, 31, 255, 256, 257, 1 << 31, 1 << 32, 1<<32 + 1, 1<<32 + 2, -1 << 32, math.MaxInt, math.MaxInt - 1, math.MinInt, math.MinInt + 1, math.MinInt + 2}

func TestApply(t *testing.T) {
	for _, c := range []struct{ mode, old, flags, want int }{
		{api.ModeSet, 0, 0, 0},
		{api.ModeSet, 5, 2, 2},
		{api.ModeSet, 2, 7, 7},
		{api.ModeSet, 31, 0, 0},
		{api.ModeSet, 0, 31, 31},
		{api.ModeAdd, 0, 0, 0},
		{api.ModeAdd, 5, 0, 5},
		{api.ModeAdd, 0, 5, 5},
		{api.ModeAdd, 5, 3, 7},
		{api.ModeAdd, 5, 5, 5},
		{api.ModeAdd, 31, 31, 31},
		{api.ModeAdd, 9, 22, 31},
		{api.ModeSub, 0, 0, 0},
		{api.ModeSub, 5, 0, 5},
		{api.ModeSub, 0, 5, 0},
		{api.ModeSub, 7, 5, 2},
		{api.ModeSub, 5, 2, 5},
		{api.ModeSub, 5, 5, 0},
		{api.ModeSub, 31, 8, 23},
		{api.ModeSub, 31, 31, 0},
		// flags beyond all, in either
		{api.ModeSet, 5, 98, 2},
		{api.ModeSet, 101, 2, 2},
		{api.ModeSet, 5, 32, 0},
		{api.ModeAdd, 32, 64, 0},
		{api.ModeAdd, 37, 2, 7},
		{api.ModeAdd, 5, 1<<40 + 2, 7},
		{api.ModeSub, 37, 32, 5},
		{api.ModeSub, 37, 4, 1},
		{api.ModeSub, 5, 36, 1},
		{3, 37, 2, 5},
		{-1, 37, 2, 5},
		{9, 32, 31, 0},
		// numbers below 0
		{api.ModeSet, 0, -1, 31},
		{api.ModeSet, -1, 0, 0},
		{api.ModeSet, 0, -2, 30},
		{api.ModeSet, 31, math.MinInt, 0},
		{api.ModeAdd, 0, -32, 0},
		{api.ModeAdd, -31, 4, 5},
		{api.ModeAdd, 4, -31, 5},
		{api.ModeAdd, -1, -1, 31},
		{api.ModeSub, -1, 1, 30},
		{api.ModeSub, 31, -1, 0},
		{api.ModeSub, 31, -32, 31},
		{api.ModeSub, math.MinInt + 7, math.MinInt + 5, 2},
		{-1, -1, 0, 31},
		{7, -9, -1, 23},
	} {
		expectApply(t, c.mode, c.old, c.flags, c.want)
	}
}

// appliedTo is Apply, worked out flag by flag.
func appliedTo(mode, old, flags int) int {
	sum := 0
	for place := range len(words) {
		was, is := old>>place&1 == 1, flags>>place&1 == 1
		has := was
		switch mode {
		case 0:
			has = is
		case 1:
			has = was || is
		case 2:
			has = was && !is
		}
		if has {
			sum += 1 << place
		}
	}
	return sum
}

func TestApplyOfAllFlags(t *testing.T) {
	modes := append([]int{api.ModeSet, api.ModeAdd, api.ModeSub}, noModes...)
	for _, mode := range modes {
		for old := range 32 {
			for flags := range 32 {
				want := appliedTo(mode, old, flags)
				for _, more := range beyond {
					expectApply(t, mode, old|more, flags, want)
					expectApply(t, mode, old, flags|more, want)
					expectApply(t, mode, old|more, flags|more, want)
					expectApply(t, mode, old|more, flags|^more&^31, want)
				}
			}
		}
	}
}

func TestApplyOfRandomNumbers(t *testing.T) {
	r := rand.New(rand.NewSource(2))
	for range 100000 {
		old, flags := int(r.Uint64()), int(r.Uint64())
		for mode := -2; mode <= 5; mode++ {
			expectApply(t, mode, old, flags, appliedTo(mode, old, flags))
		}
		mode := int(r.Uint64() | 4)
		expectApply(t, mode, old, flags, old&api.AllFlags)
	}
}

// P11.2

func TestParseOfPrint(t *testing.T) {
	for flags := range 32 {
		for _, more := range beyond {
			text := mark.Print(flags | more)
			expectFlags(t, flags, wordsOf(text)...)
			expectFlags(t, flags, wordsOf(strings.ToLower(text))...)
			expectFlags(t, flags, wordsOf(strings.ToUpper(text))...)
			if again := strings.Join(wordsOf(text), " "); "("+again+")" != text {
				t.Errorf("Print of %d is %q: other blanks than one between", flags|more, text)
			}
		}
	}
	r := rand.New(rand.NewSource(3))
	for range 10000 {
		flags := int(r.Uint64())
		expectFlags(t, flags&api.AllFlags, wordsOf(mark.Print(flags))...)
	}
}

func TestPrintOfParse(t *testing.T) {
	for flags := range 32 {
		l := wordsOf(textOf(flags))
		slices.Reverse(l)
		got, _ := mark.Parse(append(l, l...)...)
		expectText(t, got, textOf(flags))
	}
}

// What holds everywhere

// Neither a list's texts nor the spare room behind its end are changed, and none of them is kept.
func TestWhatIsHandedInStays(t *testing.T) {
	room := []string{`\dRAFT`, `\seen`, `\Seen`, `\FLAGGED`, "none"}
	was := slices.Clone(room)
	for n := range len(room) + 1 {
		got, e := mark.Parse(room[:n]...)
		if !slices.Equal(room, was) {
			t.Fatalf("what was handed in was changed: %q", room)
		}
		want := [][2]int{{0, 0}, {16, 0}, {17, 0}, {17, 0}, {21, 0}, {0, int(api.ErrForm)}}[n]
		if got != want[0] || int(e) != want[1] {
			t.Errorf("Parse of %q is %d, error %d", room[:n], got, e)
		}
	}
	l := room[:4]
	expectFlags(t, 21, l...)
	l[0], l[1], l[2], l[3] = `\Deleted`, `\deleted`, `\DELETED`, `\Deleted`
	expectFlags(t, 8, l...)
	l[3] = ""
	expectRefused(t, l...)
	l[3] = `\answered`
	expectFlags(t, 10, l...)
	expectFlags(t, 0)
}

// An answer stays, whatever is called later; and the same call is answered the same again.
func TestAnswersStay(t *testing.T) {
	var texts []string
	for flags := range 32 {
		texts = append(texts, mark.Print(flags))
		expectRefused(t, `\Recent`)
		expectApply(t, api.ModeAdd, flags, 32, flags)
	}
	for flags, text := range texts {
		if want := textOf(flags); text != want {
			t.Errorf("Print of %d was %q, want %q", flags, text, want)
		}
		expectText(t, flags, text)
		expectFlags(t, flags, wordsOf(text)...)
	}
}
