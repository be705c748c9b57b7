package span_test

import (
	"fmt"
	"math"
	"math/rand"
	"regexp"
	"slices"
	"strconv"
	"strings"
	"testing"

	"letterbox/api"
	"letterbox/span"
)

const star = api.Star

// most is the greatest number that a set may have.
const most = 9999999

// set is ranges of ends, two by two.
func set(ends ...int) []api.Range {
	l := make([]api.Range, 0, len(ends)/2)
	for at := 0; at < len(ends); at += 2 {
		l = append(l, api.Range{From: ends[at], To: ends[at+1]})
	}
	return l
}

// many is n ranges of one kind.
func many(n int, r api.Range) []api.Range {
	return slices.Repeat([]api.Range{r}, n)
}

// textOfMany is n texts with commas between.
func textOfMany(n int, text string) string {
	return strings.Join(slices.Repeat([]string{text}, n), ",")
}

func expectSet(t *testing.T, text string, want []api.Range) {
	t.Helper()
	if got, e := span.Parse(text); e != api.OK || !slices.Equal(got, want) {
		t.Errorf("Parse of %.300q is %v, error %d; want %v", text, got, e, want)
	}
}

// expectRefused wants an error, and no range beside it.
func expectRefused(t *testing.T, text string) {
	t.Helper()
	if got, e := span.Parse(text); e != api.ErrForm || len(got) != 0 {
		t.Errorf("Parse of %.300q is %v, error %d", text, got, e)
	}
}

func expectText(t *testing.T, l []api.Range, want string) {
	t.Helper()
	if got := span.Print(l); got != want {
		t.Errorf("Print of %v is %.300q, want %q", l, got, want)
	}
}

func expectHas(t *testing.T, l []api.Range, n, last int, want bool) {
	t.Helper()
	if got := span.Has(l, n, last); got != want {
		t.Errorf("Has of %v, %d, last %d, is %t", l, n, last, got)
	}
}

// expectSame wants it either way round.
func expectSame(t *testing.T, a, b []api.Range, want bool) {
	t.Helper()
	if span.Same(a, b) != want || span.Same(b, a) != want {
		t.Errorf("Same of %v and %v is not %t both ways", a, b, want)
	}
}

// P12.1: Parse

func TestParse(t *testing.T) {
	for text, want := range map[string][]api.Range{
		// one number
		"1":       set(1, 1),
		"9":       set(9, 9),
		"10":      set(10, 10),
		"100":     set(100, 100),
		"1000000": set(1000000, 1000000),
		"1234567": set(1234567, 1234567),
		"9999999": set(most, most),
		"*":       set(star, star),
		// one range
		"1:2":             set(1, 2),
		"2:1":             set(2, 1),
		"7:7":             set(7, 7),
		"1:9999999":       set(1, most),
		"9999999:1":       set(most, 1),
		"9999999:9999999": set(most, most),
		"1234567:7654321": set(1234567, 7654321),
		"10:20":           set(10, 20),
		"5:*":             set(5, star),
		"*:5":             set(star, 5),
		"*:*":             set(star, star),
		"*:9999999":       set(star, most),
		"9999999:*":       set(most, star),
		// many
		"1,2":                   set(1, 1, 2, 2),
		"2,1":                   set(2, 2, 1, 1),
		"1,1":                   set(1, 1, 1, 1),
		"*,*":                   set(star, star, star, star),
		"1,5:*":                 set(1, 1, 5, star),
		"5:*,1":                 set(5, star, 1, 1),
		"1:3,2:4":               set(1, 3, 2, 4),
		"4:2,4:2,2:4":           set(4, 2, 4, 2, 2, 4),
		"*:3,4,*,9:8,4":         set(star, 3, 4, 4, star, star, 9, 8, 4, 4),
		"1,2,3,4,5,6,7,8,9":     set(1, 1, 2, 2, 3, 3, 4, 4, 5, 5, 6, 6, 7, 7, 8, 8, 9, 9),
		"9999999,1000000:10,10": set(most, most, 1000000, 10, 10, 10),
	} {
		expectSet(t, text, want)
	}
}

// noSets are texts that are none; each is one on either side of a comma too.
var noSets = []string{
	// nothing, and commas alone
	"", ",", ",,", ",,,",
	// a comma at the beginning, at the end, two one behind the other
	"1,", ",1", "1,,2", ",1,2", "1,2,", "*,", ",*", "*,,*", "1:2,", ",1:2", "1:2,,3",
	// colons alone, at the beginning, at the end, two in one
	":", "::", "1:", ":1", "*:", ":*", "1::2", "1::", "::1", "1:2:", ":1:2", "1:2:3", "*:*:*", "1:*:2", "1:1:1", "1,:", ":,1", "1:,2", "1,:2", "1,2:", ":1,2", "1:2:3,4", "4,1:2:3", "1:,:2", "1,2:3:4,5",
	// 0, and a first 0
	"0", "00", "01", "001", "0:1", "1:0", "0:0", "01:2", "2:01", "0:*", "*:0", "01:*", "*:01", "1,0", "0,1", "1,02", "02,1", "0000000", "0000001", "00000001", "0*", "0x1", "0:",
	// eight digits, and more
	"10000000", "99999999", "12345678", "1:10000000", "10000000:1", "*:10000000", "10000000:*", "1,10000000", "10000000,1", "1073741824", "1073741824:1", "1:1073741824", "2147483647", "4294967297", "9223372036854775807", "18446744073709551617",
	// a star with a digit beside, two of them
	"*1", "1*", "**", "***", "1*1", "*1*", "*0", "1:2*", "1:*2", "*2:1", "2*:1", "**:1", "1:**", "1,**", "1,2*", "*2,1", "1234567*", "*1234567",
	// signs
	"-1", "+1", "-0", "+0", "-", "+", "1-", "1+", "1-2", "1:-2", "-1:2", "+1:2", "1:+2", "1,-2", "-*", "+*", "*-", "1,+*", "--1", "-9999999", "!1", "~1",
	// blanks
	" ", " 1", "1 ", "1 2", "1 ,2", "1, 2", "1 :2", "1: 2", " *", "* ", "\t1", "1\t", "1\n", "\n1", "1\r\n", "\r1", "1\v", "1\f", "1,\t2", "1:2 ", " 1:2", "1\u00a0", "\u20031",
	// letters
	"a", "A", "1a", "a1", "1:a", "a:1", "1,a", "a,1", "1e3", "1e1", "0b1", "1_0", "x", "NIL", "ALL", "one", "Star", "l", "O", "1:2a", "1a:2", "1l", "1O",
	// other bytes
	"\x00", "1\x00", "\x001", "1\x002", "\xff", "1\xff", "\xff1", "\x80", "1\x80", "\xb1", "1:\xb2", "\"1\"", "'1'", "(1)", "(1", "1)", "[1]", "{1}", "<1>", "1.", "1.0", ".1", "1.5", "1;2", "1/2", "1\\2", "1..2", "1#", "1%", "$", "$1", "?", "%", "+*", "1&2", "1|2", "1=1", "@1", "^1", "`1",
	// digits, commas, colons and stars that are others
	"\u0661", "\u0967", "\uff11", "1\uff11", "\u00b9", "1\u00b2", "\u2460", "\u00bd", "1\uff0c2", "1\uff1a2", "\u2217", "\uff0a", "1\u06012", "1\u060c2", "1\u201a2", "1\u02d02", "\ufeff1", "1\u200b", "1\u0301", "\U0001d7cf",
}

func TestNoSets(t *testing.T) {
	for _, none := range noSets {
		expectRefused(t, none)
		for _, good := range []string{"1", "9999999", "*", "3:4", "*:1", "1,2:3"} {
			expectRefused(t, none+","+good)
			expectRefused(t, good+","+none)
			expectRefused(t, good+","+none+","+good)
		}
	}
	for _, one := range noSets {
		if !strings.Contains(one, ",") && !strings.Contains(one, ":") { // it is no end of a range
			expectRefused(t, one+":1")
			expectRefused(t, "1:"+one)
			expectRefused(t, one+":*")
			expectRefused(t, "*:"+one)
			expectRefused(t, one+":"+one)
		}
	}
}

func TestDigits(t *testing.T) {
	for _, text := range []string{"1234567890", "9999999999", "1000000000", "9876543210", "1111111111"} {
		for digits := 1; digits <= len(text); digits++ {
			number := text[:digits]
			if digits > 7 {
				expectRefused(t, number)
				expectRefused(t, number+":1")
				expectRefused(t, "1:"+number)
				expectRefused(t, "*:"+number)
				expectRefused(t, number+",1")
				expectRefused(t, "1,"+number)
				continue
			}
			n, _ := strconv.Atoi(number)
			expectSet(t, number, set(n, n))
			expectSet(t, number+":1", set(n, 1))
			expectSet(t, "1:"+number, set(1, n))
			expectSet(t, "*:"+number, set(star, n))
			expectSet(t, number+",1", set(n, n, 1, 1))
			expectSet(t, "1,"+number, set(1, 1, n, n))
			expectRefused(t, "0"+number)
			expectRefused(t, "1:0"+number)
			expectRefused(t, "1,0"+number)
		}
	}
}

func TestEachNumber(t *testing.T) {
	for n := 1; n <= most; n += 1 + n/500 {
		text := strconv.Itoa(n)
		expectSet(t, text, set(n, n))
		expectSet(t, text+":"+text, set(n, n))
		expectSet(t, text+":*,"+text, set(n, star, n, n))
	}
}

func TestManyRanges(t *testing.T) {
	for text, r := range map[string]api.Range{
		"1":               {From: 1, To: 1},
		"*":               {From: star, To: star},
		"9:2":             {From: 9, To: 2},
		"5:*":             {From: 5, To: star},
		"*:*":             {From: star, To: star},
		"9999999:9999999": {From: most, To: most},
	} {
		for n := 1; n <= api.MaxRanges; n++ {
			expectSet(t, textOfMany(n, text), many(n, r))
			expectRefused(t, textOfMany(n, text)+",")
			expectRefused(t, ","+textOfMany(n, text))
			expectRefused(t, textOfMany(n, text)+":")
			expectRefused(t, textOfMany(n, text)+" ")
		}
		for _, n := range []int{api.MaxRanges + 1, api.MaxRanges + 2, 2 * api.MaxRanges, 2*api.MaxRanges + 1, 255, 256, 257, 1000} {
			expectRefused(t, textOfMany(n, text))
			expectRefused(t, textOfMany(n, text)+",")
		}
	}
	expectSet(t, "1,2:3,*,5:*,*:7,8,9,10,11,12,13,14,15,16,18:17,19", set(1, 1, 2, 3, star, star, 5, star, star, 7, 8, 8, 9, 9, 10, 10, 11, 11, 12, 12, 13, 13, 14, 14, 15, 15, 16, 16, 18, 17, 19, 19))
}

// aSet is one as the chapter has it, but for how many ranges there are.
var aSet = regexp.MustCompile(`\A(\*|[1-9][0-9]{0,6})(:(\*|[1-9][0-9]{0,6}))?(,(\*|[1-9][0-9]{0,6})(:(\*|[1-9][0-9]{0,6}))?)*\z`)

// setOf is what Parse is to tell, worked out without the package; false of none.
func setOf(text string) ([]api.Range, bool) {
	if !aSet.MatchString(text) {
		return nil, false
	}
	var l []api.Range
	for piece := range strings.SplitSeq(text, ",") {
		ends := strings.Split(piece, ":")
		l = append(l, api.Range{From: endOf(ends[0]), To: endOf(ends[len(ends)-1])})
	}
	return l, len(l) <= api.MaxRanges
}

func endOf(text string) int {
	if text == "*" {
		return star
	}
	n, _ := strconv.Atoi(text)
	return n
}

// expectAsModel wants of a text what setOf has.
func expectAsModel(t *testing.T, text string) {
	t.Helper()
	if want, good := setOf(text); good {
		expectSet(t, text, want)
	} else {
		expectRefused(t, text)
	}
}

// TestShortTexts goes through all texts of so few bytes of these kinds.
func TestShortTexts(t *testing.T) {
	for letters, longest := range map[string]int{"019:,*": 7, "1,:* -a": 6, "0123456789*,:;/+- \x00\xff": 4} {
		var longer func(text string)
		longer = func(text string) {
			expectAsModel(t, text)
			if len(text) == longest {
				return
			}
			for at := range len(letters) {
				longer(text + letters[at:at+1])
			}
		}
		longer("")
	}
}

// Each byte in place of another, or more, and one less; and pieces alone.
func TestEachByteAtEachPlace(t *testing.T) {
	for _, text := range []string{"1", "*", "12", "1:2", "*:*", "10:*", "1,2", "1234567", "123456:1234567", "3,1000000:20,*,5:*", textOfMany(15, "1"), textOfMany(16, "1")} {
		for at := range len(text) + 1 {
			for x := range 256 {
				c := string([]byte{byte(x)})
				expectAsModel(t, text[:at]+c+text[at:])
				expectAsModel(t, text[:at]+c+c+text[at:])
				if at < len(text) {
					expectAsModel(t, text[:at]+c+text[at+1:])
				}
			}
			if at < len(text) {
				expectAsModel(t, text[:at]+text[at+1:])
			}
			for behind := at; behind <= len(text); behind++ {
				expectAsModel(t, text[at:behind])
			}
		}
	}
}

func TestRandomTexts(t *testing.T) {
	r := rand.New(rand.NewSource(1))
	good := 0
	for range 200000 {
		text := randomText(r)
		if r.Intn(3) == 0 {
			b := []byte(text)
			b[r.Intn(len(b))] = "0123456789,:* -a"[r.Intn(16)]
			text = string(b)
		}
		if _, is := setOf(text); is {
			good++
		}
		expectAsModel(t, text)
	}
	if good < 50000 || good > 190000 {
		t.Errorf("the test's own: %d texts are sets", good)
	}
}

// randomText is mostly one of a set.
func randomText(r *rand.Rand) string {
	pieces := make([]string, 1+r.Intn(api.MaxRanges+1))
	for i := range pieces {
		pieces[i] = randomEnd(r)
		if r.Intn(2) == 0 {
			pieces[i] += ":" + randomEnd(r)
		}
	}
	return strings.Join(pieces, ",")
}

func randomEnd(r *rand.Rand) string {
	if r.Intn(5) == 0 {
		return "*"
	}
	return strconv.Itoa(1 + r.Intn(int(math.Pow10(1+r.Intn(7)))-1))
}

func TestVeryLong(t *testing.T) {
	for _, piece := range []string{"1", "0", ",", ":", "*", "1,", "1:", "1:2,", "*,", "-", " ", "a", "\x00", "\xff", "\u0661"} {
		long := strings.Repeat(piece, 1<<20)
		for _, text := range []string{long, "1" + long, "1," + long, "1:" + long, "*" + long, "*:" + long, long + "1", long + ",1", textOfMany(16, "1") + long} {
			if l, e := span.Parse(text); e != api.ErrForm || len(l) != 0 {
				t.Errorf("Parse of %.20q and so on, %d bytes, is %v, error %d", text, len(text), l, e)
			}
		}
	}
}

// P12.1: Print

func TestPrint(t *testing.T) {
	for _, c := range []struct {
		l    []api.Range
		want string
	}{
		{set(1, 1), "1"},
		{set(9, 9), "9"},
		{set(10, 10), "10"},
		{set(most, most), "9999999"},
		{set(1000000, 1000000), "1000000"},
		{set(star, star), "*"},
		{set(1, 2), "1:2"},
		{set(2, 1), "2:1"},
		{set(1, most), "1:9999999"},
		{set(most, 1), "9999999:1"},
		{set(5, star), "5:*"},
		{set(star, 5), "*:5"},
		{set(most, star), "9999999:*"},
		{set(star, most), "*:9999999"},
		{set(1, 1, 5, star), "1,5:*"},
		{set(3, 3, 2, 1), "3,2:1"},
		{set(2, 4, 2, 4), "2:4,2:4"},
		{set(4, 4, 4, 4, 3, 3), "4,4,3"},
		{set(1, 3, 2, 5), "1:3,2:5"},
		{set(star, 3, 4, 4, star, star, 9, 8), "*:3,4,*,9:8"},
		// those that may not be
		{nil, ""},
		{[]api.Range{}, ""},
		{make([]api.Range, 0, 20), ""},
		{set(0, 0), ""},
		{set(0, 1), ""},
		{set(1, 0), ""},
		{set(1, -1), ""},
		{set(-1, -1), ""},
		{set(10000000, 10000000), ""},
		{set(1, 10000000), ""},
		{set(10000000, 1), ""},
		{set(0, star), ""},
		{set(star, 0), ""},
		{set(star-1, star-1), ""},
		{set(star+1, star+1), ""},
		{set(star, star+1), ""},
		{set(-star, star), ""},
		{set(-star, -star), ""},
		{set(1, 1, 0, 0), ""},
		{set(0, 0, 1, 1), ""},
	} {
		expectText(t, c.l, c.want)
	}
}

// noEnds are no numbers that a set may have.
var noEnds = []int{0, -1, -2, -9, -10, -9999999, most + 1, most + 2, 99999999, 1<<24 - 1, star - 1, star + 1, 2 * star, -star, 1<<31 - 1, 1 << 31, 1<<32 + 1, 1<<32 + star, 1<<40 + 1, -1 << 32, math.MaxInt, math.MaxInt - 1, math.MinInt, math.MinInt + 1, math.MinInt + star}

func TestPrintOfNoEnds(t *testing.T) {
	for _, none := range noEnds {
		expectText(t, set(none, none), "")
		for _, good := range []int{1, 2, most, star} {
			expectText(t, set(none, good), "")
			expectText(t, set(good, none), "")
			for n := range api.MaxRanges {
				for place := range n + 1 {
					l := many(n+1, api.Range{From: good, To: good})
					l[place].From = none
					expectText(t, l, "")
					l[place] = api.Range{From: good, To: none}
					expectText(t, l, "")
				}
			}
		}
	}
}

func TestPrintOfMany(t *testing.T) {
	for n := 1; n <= api.MaxRanges; n++ {
		expectText(t, many(n, api.Range{From: 7, To: 7}), textOfMany(n, "7"))
		expectText(t, many(n, api.Range{From: star, To: star}), textOfMany(n, "*"))
		expectText(t, many(n, api.Range{From: most, To: 9999998}), textOfMany(n, "9999999:9999998"))
	}
	for _, n := range []int{api.MaxRanges + 1, api.MaxRanges + 2, 2 * api.MaxRanges, 255, 256, 257, 1 << 16, 1 << 20} {
		if got := span.Print(many(n, api.Range{From: 7, To: 7})); got != "" {
			t.Errorf("Print of %d ranges is %.300q", n, got)
		}
	}
}

// P12.1: Has

func TestHas(t *testing.T) {
	for _, c := range []struct {
		l       []api.Range
		n, last int
		want    bool
	}{
		// the chapter's
		{set(1, 1, 5, star), 7, 9, true},
		// one number
		{set(5, 5), 4, 9, false},
		{set(5, 5), 5, 9, true},
		{set(5, 5), 6, 9, false},
		{set(5, 5), 5, 3, true},
		// both ends, within, one beyond either
		{set(2, 5), 1, 9, false},
		{set(2, 5), 2, 9, true},
		{set(2, 5), 3, 9, true},
		{set(2, 5), 5, 9, true},
		{set(2, 5), 6, 9, false},
		// turned round
		{set(5, 2), 1, 9, false},
		{set(5, 2), 2, 9, true},
		{set(5, 2), 4, 9, true},
		{set(5, 2), 5, 9, true},
		{set(5, 2), 6, 9, false},
		// a star as To: last beyond the other end, on it, below it
		{set(5, star), 4, 9, false},
		{set(5, star), 5, 9, true},
		{set(5, star), 7, 9, true},
		{set(5, star), 9, 9, true},
		{set(5, star), 10, 9, false},
		{set(5, star), 4, 5, false},
		{set(5, star), 5, 5, true},
		{set(5, star), 6, 5, false},
		{set(5, star), 2, 3, false},
		{set(5, star), 3, 3, true},
		{set(5, star), 4, 3, true},
		{set(5, star), 5, 3, true},
		{set(5, star), 6, 3, false},
		// a star as From
		{set(star, 5), 4, 9, false},
		{set(star, 5), 5, 9, true},
		{set(star, 5), 9, 9, true},
		{set(star, 5), 10, 9, false},
		{set(star, 5), 5, 5, true},
		{set(star, 5), 6, 5, false},
		{set(star, 5), 2, 3, false},
		{set(star, 5), 3, 3, true},
		{set(star, 5), 5, 3, true},
		{set(star, 5), 6, 3, false},
		// stars alone
		{set(star, star), 6, 7, false},
		{set(star, star), 7, 7, true},
		{set(star, star), 8, 7, false},
		{set(star, star), star, 7, false},
		{set(star, star), star, star, true},
		{set(star, star), star - 1, star, false},
		{set(1, star), star, 7, false},
		{set(1, star), star, star, true},
		{set(1, star), star + 1, star, false},
		// last 0 and below
		{set(star, star), 0, 0, false},
		{set(star, star), 1, 0, false},
		{set(star, star), -3, -3, false},
		{set(3, star), 1, 0, true},
		{set(3, star), 3, 0, true},
		{set(3, star), 4, 0, false},
		{set(3, star), 0, 0, false},
		{set(star, 3), 1, -7, true},
		{set(star, 3), 3, -7, true},
		{set(star, 3), 4, -7, false},
		{set(star, 3), 0, -7, false},
		{set(star, 3), -7, -7, false},
		{set(star, 3), 2, math.MinInt, true},
		// ends of 0 and below, and n of them
		{set(0, 0), 0, 9, false},
		{set(0, 0), 1, 9, false},
		{set(0, 2), 0, 9, false},
		{set(0, 2), 1, 9, true},
		{set(0, 2), 3, 9, false},
		{set(-5, 5), -5, 9, false},
		{set(-5, 5), -1, 9, false},
		{set(-5, 5), 0, 9, false},
		{set(-5, 5), 1, 9, true},
		{set(-5, 5), 5, 9, true},
		{set(-5, 5), 6, 9, false},
		{set(5, -5), 1, 9, true},
		{set(-5, -2), -3, 9, false},
		{set(-5, -2), 1, 9, false},
		{set(-5, star), 9, 9, true},
		{set(-5, star), 10, 9, false},
		{set(-5, star), 1, -1, false},
		{set(math.MinInt, math.MaxInt), math.MaxInt, 9, true},
		{set(math.MinInt, math.MaxInt), 1, 9, true},
		{set(math.MinInt, math.MaxInt), 0, 9, false},
		{set(math.MaxInt, math.MinInt), math.MinInt, 9, false},
		{set(math.MaxInt, math.MaxInt), math.MaxInt, 9, true},
		{set(math.MaxInt, math.MaxInt), math.MaxInt - 1, 9, false},
		{set(-star, -star), 9, 9, false},
		// beyond what a set may have
		{set(most+1, most+1), most + 1, 9, true},
		{set(star-1, star+1), star, 9, true},
		{set(star+1, star+1), star, 9, false},
		{set(star+1, star+1), 9, 9, false},
		{set(star-1, star-1), 9, 9, false},
		// none, and several
		{nil, 1, 1, false},
		{[]api.Range{}, 1, 9, false},
		{set(9, 9)[:0], 9, 9, false},
		{set(2, 3, 7, 7), 3, 9, true},
		{set(2, 3, 7, 7), 4, 9, false},
		{set(2, 3, 7, 7), 6, 9, false},
		{set(2, 3, 7, 7), 7, 9, true},
		{set(2, 3, 7, 7), 8, 9, false},
		{set(7, 7, 3, 2), 2, 9, true},
		{set(1, 5, 3, 9), 4, 9, true},
		{set(0, -1, 4, 4), 4, 9, true},
		{set(2, 4, star, 8), 9, 10, true},
		{set(2, 4, star, 8), 5, 10, false},
		{set(2, 4, star, 8), 5, 3, true},
	} {
		expectHas(t, c.l, c.n, c.last, c.want)
	}
}

// within is Has of one range of small ends, number by number.
func within(from, to, n, last int) bool {
	if from == star {
		from = last
	}
	if to == star {
		to = last
	}
	step := 1
	if from > to {
		step = -1
	}
	for at := from; ; at += step {
		if at == n {
			return n > 0
		}
		if at == to {
			return false
		}
	}
}

func TestHasOfAllSmall(t *testing.T) {
	ends := []int{star}
	for n := -4; n <= 8; n++ {
		ends = append(ends, n)
	}
	for _, from := range ends {
		for _, to := range ends {
			for n := -6; n <= 10; n++ {
				for last := -6; last <= 10; last++ {
					want := within(from, to, n, last)
					expectHas(t, set(from, to), n, last, want)
					expectHas(t, set(from, to, from, to), n, last, want)
					expectHas(t, set(from, to, 12, 11), n, last, want)
					expectHas(t, set(11, 12, from, to), n, last, want)
					expectHas(t, set(from, to, 4, 3), n, last, want || n == 3 || n == 4)
					expectHas(t, set(3, 4, from, to), n, last, want || n == 3 || n == 4)
				}
			}
		}
	}
}

// A set of any length has what any of its ranges has.
func TestHasAtEachPlace(t *testing.T) {
	for _, n := range []int{2, 3, api.MaxRanges - 1, api.MaxRanges, api.MaxRanges + 1, 100} {
		for place := range n {
			l := many(n, api.Range{From: 20, To: 30})
			l[place] = api.Range{From: star, To: 5}
			for at := range 40 {
				expectHas(t, l, at, 7, at >= 5 && at <= 7 || at >= 20 && at <= 30)
			}
		}
	}
	l := many(1<<20, api.Range{From: 20, To: 30})
	l[len(l)-1] = api.Range{From: 1, To: 1}
	if !span.Has(l, 1, 9) || span.Has(l, 2, 9) {
		t.Error("Has of very many ranges")
	}
}

func TestHasOfRandomSets(t *testing.T) {
	r := rand.New(rand.NewSource(2))
	for range 50000 {
		var l []api.Range
		for range r.Intn(5) {
			ends := [2]int{r.Intn(60) - 10, r.Intn(60) - 10}
			for place := range ends {
				if r.Intn(5) == 0 {
					ends[place] = star
				}
			}
			l = append(l, set(ends[0], ends[1])...)
		}
		n, last := r.Intn(70)-10, r.Intn(70)-10
		want := false
		for _, x := range l {
			want = want || within(x.From, x.To, n, last)
		}
		expectHas(t, l, n, last, want)
	}
}

// P12.1: Same

func TestSame(t *testing.T) {
	for _, c := range []struct {
		a, b []api.Range
		want bool
	}{
		{nil, nil, true},
		{nil, []api.Range{}, true},
		{nil, set(1, 2)[:0], true},
		{[]api.Range{}, []api.Range{}, true},
		{nil, set(1, 1), false},
		{nil, set(0, 0), false},
		{[]api.Range{}, set(0, 0), false},
		{set(1, 1), set(1, 1), true},
		{set(1, 2, 3, 4), set(1, 2, 3, 4), true},
		{set(5, star), set(5, star), true},
		{set(star, star), set(star, star), true},
		// other lengths
		{set(1, 2), set(1, 2, 3, 4), false},
		{set(3, 4), set(1, 2, 3, 4), false},
		{set(1, 1), set(1, 1, 1, 1), false},
		{set(1, 2), set(1, 2, 0, 0), false},
		{set(1, 2), set(0, 0, 1, 2), false},
		// another order, and turned round
		{set(1, 2, 3, 4), set(3, 4, 1, 2), false},
		{set(1, 1, 1, 1, 2, 2), set(1, 1, 2, 2, 2, 2), false},
		{set(1, 1, 1, 1, 2, 2), set(1, 1, 2, 2, 1, 1), false},
		{set(1, 2), set(2, 1), false},
		{set(5, star), set(star, 5), false},
		{set(1, 2, 3, 4), set(1, 2, 4, 3), false},
		{set(1, 2, 3, 4), set(2, 1, 3, 4), false},
		// one end that is another one
		{set(1, 2), set(1, 3), false},
		{set(1, 2), set(3, 2), false},
		{set(1, 1), set(1, star), false},
		{set(star, star), set(star, star+1), false},
		{set(1, 2, 3, 4), set(1, 2, 3, 5), false},
		{set(1, 2, 3, 4), set(1, 2, 2, 4), false},
		{set(1, 2, 3, 4), set(1, 0, 3, 4), false},
		{set(1, 2, 3, 4), set(0, 2, 3, 4), false},
		{set(1, 1), set(1<<32+1, 1<<32+1), false},
		{set(1, 1), set(-1, -1), false},
		// the same numbers in other ranges
		{set(1, 2), set(1, 1, 2, 2), false},
		{set(1, 2, 3, 4), set(1, 4), false},
		{set(1, 3, 2, 4), set(1, 4, 2, 3), false},
		// those that may not be
		{set(0, 0), set(0, 0), true},
		{set(-1, math.MaxInt), set(-1, math.MaxInt), true},
		{set(-1, math.MaxInt), set(-1, math.MinInt), false},
		{set(-1, 1), set(0, 1), false},
		{many(40, api.Range{From: 1, To: 2}), many(40, api.Range{From: 1, To: 2}), true},
		{many(40, api.Range{From: 1, To: 2}), many(39, api.Range{From: 1, To: 2}), false},
	} {
		expectSame(t, c.a, c.b, c.want)
		expectSame(t, c.a, slices.Clone(c.a), true)
		expectSame(t, c.a, c.a, true)
	}
}

func TestSameOfAllSmall(t *testing.T) {
	sets := [][]api.Range{nil}
	ends := []int{0, 1, 2, star}
	for _, from := range ends {
		for _, to := range ends {
			sets = append(sets, set(from, to))
		}
	}
	for _, one := range sets[1:] {
		for _, other := range sets[1 : len(ends)*len(ends)+1] {
			sets = append(sets, slices.Concat(one, other))
		}
	}
	for i, a := range sets {
		for j, b := range sets {
			expectSame(t, a, slices.Clone(b), i == j)
		}
	}
}

func TestSameAtEachPlace(t *testing.T) {
	for _, n := range []int{1, 2, api.MaxRanges, api.MaxRanges + 1, 100} {
		l := many(n, api.Range{From: 3, To: 4})
		for place := range n {
			for _, r := range []api.Range{{From: 3, To: 5}, {From: 2, To: 4}, {From: 4, To: 3}, {}} {
				other := slices.Clone(l)
				other[place] = r
				expectSame(t, l, other, false)
			}
			expectSame(t, l, l[:place], false)
		}
	}
}

// P12.2

func expectBack(t *testing.T, l []api.Range) {
	t.Helper()
	text := span.Print(l)
	got, e := span.Parse(text)
	if e != api.OK || !span.Same(got, l) || !slices.Equal(got, l) {
		t.Errorf("Print of %v is %q, and Parse of that %v, error %d", l, text, got, e)
	}
	if again := span.Print(got); again != text {
		t.Errorf("Print of %v is %q, and behind Parse %q", l, text, again)
	}
}

func TestParseOfPrint(t *testing.T) {
	ends := []int{1, 2, 9, 10, 11, 99, 100, 101, 999, 1000, 9999, 10000, 99999, 100000, 999999, 1000000, 1000001, most - 1, most, star}
	for _, from := range ends {
		for _, to := range ends {
			expectBack(t, set(from, to))
			expectBack(t, set(from, to, to, from))
			expectBack(t, set(from, from, to, to, from, to))
			for _, n := range []int{api.MaxRanges - 1, api.MaxRanges} {
				expectBack(t, many(n, api.Range{From: from, To: to}))
			}
		}
	}
	r := rand.New(rand.NewSource(3))
	for range 50000 {
		l := make([]api.Range, 1+r.Intn(api.MaxRanges))
		for i := range l {
			l[i] = api.Range{From: endOf(randomEnd(r)), To: endOf(randomEnd(r))}
			if r.Intn(3) == 0 {
				l[i].To = l[i].From
			}
		}
		expectBack(t, l)
	}
}

// What may not be has no text, and that is none of a set.
func TestParseOfNoPrint(t *testing.T) {
	for _, l := range [][]api.Range{nil, set(0, 0), set(1, 1, 2, -2), set(1, most+1), many(api.MaxRanges+1, api.Range{From: 1, To: 1})} {
		expectRefused(t, span.Print(l))
	}
}

// What Parse takes is told again as it was written, but for two ends that are one.
func TestPrintOfParse(t *testing.T) {
	r := rand.New(rand.NewSource(4))
	for range 50000 {
		text := randomText(r)
		l, e := span.Parse(text)
		if e != api.OK {
			continue
		}
		pieces := strings.Split(text, ",")
		for i, piece := range pieces {
			if from, to, has := strings.Cut(piece, ":"); has && from == to {
				pieces[i] = from
			}
		}
		expectText(t, l, strings.Join(pieces, ","))
	}
	expectText(t, set(5, 5), "5")
	expectBack(t, set(5, 5))
}

// What holds everywhere

// Neither a list's ranges nor the spare room behind its end are changed, and none of them is kept.
func TestWhatIsHandedInStays(t *testing.T) {
	room := set(5, 2, star, 7, 3, 3, 0, 9, star, star, 5, 2)
	was := slices.Clone(room)
	for n := range len(room) + 1 {
		l := room[:n]
		text := span.Print(l)
		for last := -1; last <= 10; last++ {
			for at := -1; at <= 10; at++ {
				span.Has(l, at, last)
			}
		}
		span.Same(l, room)
		span.Same(room, l)
		span.Same(l, room[len(room)-n:])
		if !slices.Equal(room, was) {
			t.Fatalf("what was handed in was changed: %v", room)
		}
		if want := []string{"", "5:2", "5:2,*:7", "5:2,*:7,3", "", "", ""}[n]; text != want {
			t.Errorf("Print of %v is %q, want %q", l, text, want)
		}
	}
	l := set(1, 2)
	text := span.Print(l)
	expectHas(t, l, 2, 9, true)
	expectSame(t, l, set(1, 2), true)
	l[0] = api.Range{From: 8, To: star}
	expectText(t, l, "8:*")
	expectHas(t, l, 2, 9, false)
	expectHas(t, l, 9, 9, true)
	expectSame(t, l, set(1, 2), false)
	if text != "1:2" {
		t.Errorf("a text that was told became %q", text)
	}
}

// What Parse answers is new each time, its spare room too.
func TestAnswersAreNew(t *testing.T) {
	for n := 1; n <= api.MaxRanges; n++ {
		text := textOfMany(n, "3:*")
		want := many(n, api.Range{From: 3, To: star})
		first, _ := span.Parse(text)
		second, _ := span.Parse(text)
		for _, whole := range [][]api.Range{first[:cap(first)], first[:0]} {
			for i := range whole {
				whole[i] = api.Range{From: -1, To: -2}
			}
		}
		if !slices.Equal(second, want) {
			t.Errorf("an answer became %v when another was changed", second)
		}
		spare := slices.Clone(second[:cap(second)])
		third, _ := span.Parse(text)
		for range 3 {
			third = append(third, api.Range{From: 4, To: 4})
		}
		if !slices.Equal(second[:cap(second)], spare) {
			t.Errorf("an answer's spare room became %v when another was added to", second[:cap(second)])
		}
		expectSet(t, text, want)
	}
}

// An answer stays, whatever is called later; and the same call is answered the same again.
func TestAnswersStay(t *testing.T) {
	var sets [][]api.Range
	var texts []string
	for n := 1; n <= api.MaxRanges; n++ {
		l, _ := span.Parse(textOfMany(n, fmt.Sprint(n, ":*")))
		sets = append(sets, l)
		texts = append(texts, span.Print(l))
		expectRefused(t, "1,2,")
		expectRefused(t, textOfMany(17, "1"))
		expectHas(t, l, n, n, true)
	}
	for i, l := range sets {
		n := i + 1
		want := many(n, api.Range{From: n, To: star})
		if !slices.Equal(l, want) || texts[i] != textOfMany(n, fmt.Sprint(n, ":*")) {
			t.Errorf("%v and %q were told; want %v", l, texts[i], want)
		}
		expectSet(t, texts[i], want)
		expectText(t, want, texts[i])
	}
}
