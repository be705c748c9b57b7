package find_test

import (
	"fmt"
	"reflect"
	"strings"
	"testing"

	"letterbox/api"
	"letterbox/find"
)

func atom(text string) api.Tok   { return api.Tok{Kind: api.TokAtom, Text: text} }
func quoted(text string) api.Tok { return api.Tok{Kind: api.TokString, Text: text} }

// toks is tokens with blanks around each of them: brackets, strings in quotes (without a blank), and atoms.
func toks(line string) []api.Tok {
	var l []api.Tok
	for _, word := range strings.Fields(line) {
		switch {
		case word == "(":
			l = append(l, api.Tok{Kind: api.TokOpen})
		case word == ")":
			l = append(l, api.Tok{Kind: api.TokClose})
		case word[0] == '"':
			l = append(l, quoted(word[1:len(word)-1]))
		default:
			l = append(l, atom(word))
		}
	}
	return l
}

var everything = api.Key{Kind: api.KeyAll}

func flag(n int) api.Key            { return api.Key{Kind: api.KeyFlag, N: n} }
func larger(n int) api.Key          { return api.Key{Kind: api.KeyLarger, N: n} }
func smaller(n int) api.Key         { return api.Key{Kind: api.KeySmaller, N: n} }
func text(s string) api.Key         { return api.Key{Kind: api.KeyText, Text: s} }
func field(name, s string) api.Key  { return api.Key{Kind: api.KeyField, Name: name, Text: s} }
func places(l ...api.Range) api.Key { return api.Key{Kind: api.KeySet, Set: l} }
func uids(l ...api.Range) api.Key   { return api.Key{Kind: api.KeyUID, Set: l} }
func not(kids ...api.Key) api.Key   { return api.Key{Kind: api.KeyNot, Kids: kids} }
func or(kids ...api.Key) api.Key    { return api.Key{Kind: api.KeyOr, Kids: kids} }
func and(kids ...api.Key) api.Key   { return api.Key{Kind: api.KeyAnd, Kids: kids} }
func span(from, to int) api.Range   { return api.Range{From: from, To: to} }

// plain is a key whose lists of nothing are nil, so that keys can be held against each other by all that they have.
func plain(k api.Key) api.Key {
	k.Set = append([]api.Range(nil), k.Set...)
	var kids []api.Key
	for _, kid := range k.Kids {
		kids = append(kids, plain(kid))
	}
	k.Kids = kids
	return k
}

// alike tells whether two keys are one, by what the language says of them.
func alike(a, b api.Key) bool { return reflect.DeepEqual(plain(a), plain(b)) }

// told is the beginning of anything as a text.
func told(x any) string { return fmt.Sprintf("%.300s", fmt.Sprint(x)) }

// expectKey wants of tokens a KeyAnd of the keys, and no more in it than these.
func expectKey(t *testing.T, l []api.Tok, kids ...api.Key) {
	t.Helper()
	k, e := find.Parse(l)
	if want := and(kids...); e != api.OK || !alike(k, want) {
		t.Errorf("Parse of %s is %s, error %d; want %s", told(l), told(k), e, told(want))
	}
}

// expectNone wants ErrForm and a Key of nothing.
func expectNone(t *testing.T, l []api.Tok) {
	t.Helper()
	if k, e := find.Parse(l); e != api.ErrForm || !reflect.DeepEqual(k, api.Key{}) {
		t.Errorf("Parse of %s is %s, error %d", told(l), told(k), e)
	}
}

func expectLine(t *testing.T, line string, kids ...api.Key) {
	t.Helper()
	expectKey(t, toks(line), kids...)
}

func expectNoLine(t *testing.T, line string) {
	t.Helper()
	expectNone(t, toks(line))
}

// P18.1

// lone are keys of one word, each by itself.
var lone = map[string]api.Key{
	"all": everything, "seen": flag(1), "answered": flag(2), "flagged": flag(4), "deleted": flag(8), "draft": flag(16),
	"unseen": not(flag(1)), "unanswered": not(flag(2)), "unflagged": not(flag(4)), "undeleted": not(flag(8)), "undraft": not(flag(16)),
}

// begun are words that more belongs to, with such more, and all of it as a key.
var begun = []struct {
	word, more string
	key        api.Key
}{
	{"larger", "3", larger(3)}, {"smaller", "3", smaller(3)}, {"text", "x", text("x")}, {"text", `"x"`, text("x")},
	{"subject", "x", field("subject", "x")}, {"from", `"x"`, field("from", "x")}, {"to", "x", field("to", "x")},
	{"uid", "3", uids(span(3, 3))}, {"not", "all", not(everything)}, {"or", "all seen", or(everything, flag(1))},
}

// letters is a word in great and small ones, all ways there are (or a few, if it is long).
func letters(word string) []string {
	ways := []string{""}
	for _, c := range word {
		var more []string
		for at, way := range ways {
			if len(ways) < 64 || at%2 == 0 {
				more = append(more, way+string(c))
			}
			if len(ways) < 64 || at%2 == 1 {
				more = append(more, way+strings.ToUpper(string(c)))
			}
		}
		ways = more
	}
	return append(ways, strings.ToUpper(word), strings.ToUpper(word[:1])+word[1:])
}

func TestWords(t *testing.T) {
	for word, k := range lone {
		for _, way := range letters(word) {
			expectLine(t, way, k)
		}
	}
	for _, b := range begun {
		for _, way := range letters(b.word) {
			expectLine(t, way+" "+b.more, b.key)
		}
	}
}

// One key or more: each by itself, each two of them beside one another, and many.
func TestOneKeyOrMore(t *testing.T) {
	expectNone(t, nil)
	expectNone(t, []api.Tok{})
	all := map[string]api.Key{"1:*": places(span(1, api.Star)), "( all )": and(everything), "( seen 1 )": and(flag(1), places(span(1, 1)))}
	for word, k := range lone {
		all[word] = k
	}
	for _, b := range begun {
		all[b.word+" "+b.more] = b.key
	}
	for one, k := range all {
		expectLine(t, one, k)
		for other, j := range all {
			expectLine(t, one+" "+other, k, j)
			expectLine(t, one+" "+other+" "+one, k, j, k)
			expectLine(t, "( "+one+" ) "+other, and(k), j)
			expectLine(t, "or "+one+" "+other+" "+other, or(k, j), j)
			expectLine(t, "not "+one+" "+other, not(k), j)
		}
	}
	var line []api.Tok
	var kids []api.Key
	for n := range 300 {
		line = append(line, toks(fmt.Sprint("larger ", n))...)
		kids = append(kids, larger(n))
		expectKey(t, line, kids...)
		expectNone(t, line[:len(line)-1])
	}
}

// Words that are near one: none of them is a key, nor are the same as strings.
func TestNearWords(t *testing.T) {
	words := map[string]string{}
	for word := range lone {
		words[word] = ""
	}
	for _, b := range begun {
		words[b.word] = b.more
	}
	expectNear := func(near, more string) {
		t.Helper()
		lower := strings.Map(func(c rune) rune {
			if 'A' <= c && c <= 'Z' {
				return c + 'a' - 'A'
			}
			return c
		}, near)
		if _, is := words[lower]; !is {
			expectNone(t, append([]api.Tok{atom(near)}, toks(more)...))
			expectNone(t, append([]api.Tok{atom(near)}, toks("all")...))
			expectNone(t, []api.Tok{atom(near)})
			expectNone(t, []api.Tok{atom("all"), atom(near)})
		}
	}
	for word, more := range words {
		for at := range len(word) + 1 {
			for x := range 256 {
				c := string([]byte{byte(x)})
				expectNear(word[:at]+c+word[at:], more)
				if at < len(word) && !strings.EqualFold(c, word[at:at+1]) {
					expectNear(word[:at]+c+word[at+1:], more)
				}
			}
			if at < len(word) {
				expectNear(word[:at]+word[at+1:], more)
				expectNear(word[at:], more+" ")
				expectNear(word[:at], more)
			}
		}
		for _, near := range []string{word + word, word + " ", " " + word, word + "\x00", word + "\r\n", "[" + word + "]", `\` + word, "un" + word + "x", "not" + word, word + ":", "un " + word} {
			expectNear(near, more)
		}
		for _, way := range []string{word, strings.ToUpper(word)} {
			expectNone(t, append([]api.Tok{quoted(way)}, toks(more)...))
			expectNone(t, append([]api.Tok{atom("all"), quoted(way)}, toks(more)...))
		}
	}
	for _, near := range []string{
		"", "a", "what", "new", "old", "recent", "body", "bcc", "cc", "header", "before", "since", "on", "sent", "keyword", "and", "KeyAll", "none", "*all", "0", "un", "uns", "UN", "unun", "ununseen", "UNunDraft", "unununseen", "unall", "unlarger", "unsmaller", "untext", "unsubject", "unfrom", "unto", "unuid", "unnot", "unor", "un1", "un*", "nseen", "seenun", "notseen",
		"\u017feen", "an\u017fwered", "\u212aeen", "\u1e9een", "s\u0435en", "\uff53een", "seen\u0301", "all\u00a0", "\u0130", "u\u0130d", "U\u0131D",
	} {
		expectNear(near, "1")
	}
	for _, k := range []string{"all", "seen", "unseen", "1", "1:*", "*", ""} {
		expectNone(t, []api.Tok{quoted(k)})
		expectNone(t, []api.Tok{quoted(k), atom("all")})
		expectNone(t, []api.Tok{atom("not"), quoted(k)})
		expectNone(t, []api.Tok{{Kind: api.TokOpen}, quoted(k), {Kind: api.TokClose}})
		expectNone(t, []api.Tok{atom("or"), quoted(k), atom("all")})
		expectNone(t, []api.Tok{atom("or"), atom("all"), quoted(k)})
	}
}

func TestSizes(t *testing.T) {
	for word, key := range map[string]func(int) api.Key{"larger": larger, "smaller": smaller} {
		for digits, n := range map[string]int{
			"0": 0, "1": 1, "9": 9, "00": 0, "01": 1, "007": 7, "0012": 12, "10": 10, "1200": 1200, "99999": 99999, "123456": 123456, "0000000": 0, "0000001": 1, "0123456": 123456, "1000000": 1000000, "1234567": 1234567, "9999999": 9999999,
		} {
			expectLine(t, word+" "+digits, key(n))
			expectLine(t, strings.ToUpper(word)+" "+digits+" all", key(n), everything)
			expectNone(t, []api.Tok{atom(word), quoted(digits)})
			expectNone(t, []api.Tok{atom(word), quoted(digits), atom(digits)})
			expectNone(t, []api.Tok{atom(word), {Kind: api.TokOpen}, atom(digits), {Kind: api.TokClose}})
			expectNone(t, []api.Tok{atom(word), {Kind: api.TokOpen, Text: digits}})
			expectNone(t, []api.Tok{atom(word), {Kind: api.TokClose, Text: digits}})
			expectNone(t, []api.Tok{atom(word), {Text: digits}})
			expectNone(t, []api.Tok{atom(word), {Kind: 5, Text: digits}})
		}
		for _, no := range []string{
			"", "00000000", "00000001", "12345678", "99999999", "10000000", "123456789", "4294967297", "18446744073709551617", strings.Repeat("0", 300), strings.Repeat("1", 1<<20),
			"+1", "-1", "+0", "-0", "+", "-", " ", " 1", "1 ", "1 2", "\t1", "1\n", "\x001", "1\x00", "1.", "1.0", ".1", "1,2", "1:2", "1:", ":1", "*", "1*", "1e1", "0x1", "1_0", "1k", "x", "1x", "x1", "1x1", "all", "seen", "\u0661", "\uff11", "\xb9", "1\xff", "/", ":", "(1)", "{1}",
		} {
			expectNone(t, []api.Tok{atom(word), atom(no)})
			expectNone(t, []api.Tok{atom(word), atom(no), atom("1")})
			expectNone(t, []api.Tok{atom(word), quoted(no)})
		}
		for _, line := range []string{word, word + " )", word + " (", word + " ( 1 )", word + " ( )", "( " + word + " )", "( " + word + " ) 1", "not " + word, "or all " + word, word + " " + word + " 1", word + " not 1"} {
			expectNoLine(t, line)
		}
		for x := range 256 {
			for _, digits := range []string{"", "1", "123456", "1234567"} {
				c := string([]byte{byte(x)})
				if x < '0' || x > '9' || len(digits) == 7 {
					expectNone(t, []api.Tok{atom(word), atom(digits + c)})
					expectNone(t, []api.Tok{atom(word), atom(c + digits)})
				}
			}
		}
	}
}

func TestEachSize(t *testing.T) {
	for n := 0; n <= 9999999; n += 1 + n/500 {
		for digits := 1; digits <= 9; digits++ {
			size := fmt.Sprintf("%0*d", digits, n)
			if len(size) <= 7 {
				expectLine(t, "larger "+size+" smaller "+size, larger(n), smaller(n))
			} else {
				expectNoLine(t, "larger "+size)
				expectNoLine(t, "smaller "+size)
			}
		}
	}
}

// Texts stay as they are, whatever they are.
func TestTexts(t *testing.T) {
	for word, key := range map[string]func(string) api.Key{
		"text":    text,
		"subject": func(s string) api.Key { return field("subject", s) },
		"from":    func(s string) api.Key { return field("from", s) },
		"to":      func(s string) api.Key { return field("to", s) },
	} {
		for _, s := range []string{
			"", " ", "x", "X", "a b", "A b C", "all", "ALL", "seen", "not", "or", "text", "subject", "from", "to", "uid", "larger", "un", "1", "1:*", "*", "0", "(", ")", "()", `"`, `\`, `"x"`, "\x00", "\r\n", "\x7f\x80\xff", "\u00e4\u20ac", strings.Repeat("aB", 1<<20),
		} {
			for _, way := range []string{word, strings.ToUpper(word)} {
				for _, tok := range []api.Tok{atom(s), quoted(s)} {
					expectKey(t, []api.Tok{atom(way), tok}, key(s))
					expectKey(t, []api.Tok{atom(way), tok, atom("all")}, key(s), everything)
					expectKey(t, []api.Tok{atom(way), tok, atom(way), tok}, key(s), key(s))
					expectKey(t, []api.Tok{atom("not"), atom(way), tok, atom("draft")}, not(key(s)), flag(16))
					expectNone(t, []api.Tok{atom(way), tok, quoted(s)})
				}
				for _, kind := range []int{0, api.TokOpen, api.TokClose, 5, -1, 1 << 40} {
					expectNone(t, []api.Tok{atom(way), {Kind: kind, Text: s}})
					expectNone(t, []api.Tok{atom(way), {Kind: kind, Text: s}, atom("x")})
				}
			}
		}
		for _, line := range []string{word, word + " (", word + " )", word + " ( )", word + " ( x )", "( " + word + " )", "( " + word + " ) x", "not " + word, "or all " + word, "all " + word} {
			expectNoLine(t, line)
		}
	}
}

// sets are texts of sets, all forms that there are.
var sets = map[string][]api.Range{
	"1": {span(1, 1)}, "7": {span(7, 7)}, "9999999": {span(9999999, 9999999)}, "*": {span(api.Star, api.Star)}, "1:2": {span(1, 2)}, "2:1": {span(2, 1)}, "1:1": {span(1, 1)}, "1:*": {span(1, api.Star)}, "*:1": {span(api.Star, 1)}, "*:*": {span(api.Star, api.Star)}, "1,2": {span(1, 1), span(2, 2)}, "2,1,1": {span(2, 2), span(1, 1), span(1, 1)}, "1,5:*": {span(1, 1), span(5, api.Star)}, "*:2,1": {span(api.Star, 2), span(1, 1)}, "3:10,*,12:11": {span(3, 10), span(api.Star, api.Star), span(12, 11)}, "1,2,3,4,5,6,7,8,9,10,11,12,13,14,15,16": {span(1, 1), span(2, 2), span(3, 3), span(4, 4), span(5, 5), span(6, 6), span(7, 7), span(8, 8), span(9, 9), span(10, 10), span(11, 11), span(12, 12), span(13, 13), span(14, 14), span(15, 15), span(16, 16)},
}

// noSets are nearly ones.
var noSets = []string{
	"", "0", "00", "01", "1:0", "0:1", "10000000", "00000001", "1:10000000", ":", "1:", ":1", ",", "1,", ",1", "1,,2", "1::2", "1:2:3", "1:2:", "**", "*1", "1*", "-1", "+1", "1-2", "1;2", "1.", "1 ", " 1", "1, 2", "1 :2", "x", "1x", "x1", "1:x", "$", "1\x00", "\u0661", "\xb9", "all,1", "1,all", "1,2,3,4,5,6,7,8,9,10,11,12,13,14,15,16,17",
	strings.Repeat("1,", 1<<19) + "1", strings.Repeat("1", 1<<20),
}

func TestSets(t *testing.T) {
	for s, set := range sets {
		expectLine(t, s, places(set...))
		expectLine(t, s+" "+s, places(set...), places(set...))
		expectLine(t, "all "+s+" unseen", everything, places(set...), not(flag(1)))
		expectLine(t, "not "+s, not(places(set...)))
		expectLine(t, "( "+s+" )", and(places(set...)))
		for _, way := range letters("uid") {
			expectLine(t, way+" "+s, uids(set...))
			expectLine(t, way+" "+s+" "+s, uids(set...), places(set...))
			expectLine(t, s+" "+way+" "+s, places(set...), uids(set...))
		}
		expectNone(t, []api.Tok{quoted(s)})
		expectNone(t, []api.Tok{atom("uid"), quoted(s)})
		expectNone(t, []api.Tok{atom("uid"), quoted(s), atom(s)})
		expectNone(t, []api.Tok{atom("uid"), {Kind: api.TokOpen}, atom(s), {Kind: api.TokClose}})
		expectNone(t, []api.Tok{atom("uid"), {Kind: api.TokOpen, Text: s}})
		expectNone(t, []api.Tok{atom("uid"), {Text: s}})
		expectNone(t, []api.Tok{atom("uid"), {Kind: 5, Text: s}})
		expectNone(t, []api.Tok{{Kind: 5, Text: s}})
		expectNone(t, []api.Tok{{Text: s}})
	}
	for _, s := range noSets {
		expectNone(t, []api.Tok{atom(s)})
		expectNone(t, []api.Tok{atom("1"), atom(s)})
		expectNone(t, []api.Tok{atom(s), atom("1")})
		expectNone(t, []api.Tok{atom("uid"), atom(s)})
		expectNone(t, []api.Tok{atom("uid"), atom(s), atom("1")})
		expectNone(t, []api.Tok{atom("uid"), quoted(s)})
	}
	for _, line := range []string{"uid", "uid )", "uid (", "uid ( )", "( uid )", "( uid ) 1", "not uid", "or all uid", "uid uid 1", "uid all", "uid not 1", "uid seen"} {
		expectNoLine(t, line)
	}
}

func TestNotAndOr(t *testing.T) {
	expectLine(t, "not not all", not(not(everything)))
	expectLine(t, "not unseen", not(not(flag(1))))
	expectLine(t, "not all seen", not(everything), flag(1))
	expectLine(t, "not or all seen draft", not(or(everything, flag(1))), flag(16))
	expectLine(t, "not ( all seen ) draft", not(and(everything, flag(1))), flag(16))
	expectLine(t, "not larger 3 text not not text or", not(larger(3)), text("not"), not(text("or")))
	expectLine(t, "or all seen draft", or(everything, flag(1)), flag(16))
	expectLine(t, "or not all not seen not draft", or(not(everything), not(flag(1))), not(flag(16)))
	expectLine(t, "or or all seen draft", or(or(everything, flag(1)), flag(16)))
	expectLine(t, "or all or seen draft", or(everything, or(flag(1), flag(16))))
	expectLine(t, "or ( all seen ) ( draft ) 1", or(and(everything, flag(1)), and(flag(16))), places(span(1, 1)))
	expectLine(t, "or subject x uid 3 4", or(field("subject", "x"), uids(span(3, 3))), places(span(4, 4)))
	expectLine(t, "or text or text not", or(text("or"), text("not")))
	for _, line := range []string{
		"not", "not not", "not (", "not )", "not ( )", "( not )", "( not ) all", "all not", "not what", "not larger", "not larger all", "not uid",
		"or", "or all", "or (", "or )", "or all (", "or all )", "or ( )", "or all ( )", "or ( all", "( or )", "( or all )", "( or all ) all", "or ( all )", "or ( all seen )", "or not all", "or all not", "not or all", "or or all seen", "or all or seen", "or what all", "or all what", "or text all", "or all text", "or or", "or not", "( or all seen", "or all seen )",
	} {
		expectNoLine(t, line)
	}
}

func TestBrackets(t *testing.T) {
	expectLine(t, "( all )", and(everything))
	expectLine(t, "( all seen draft )", and(everything, flag(1), flag(16)))
	expectLine(t, "( ( all ) )", and(and(everything)))
	expectLine(t, "( all ) ( seen )", and(everything), and(flag(1)))
	expectLine(t, "( all ) seen", and(everything), flag(1))
	expectLine(t, "all ( seen )", everything, and(flag(1)))
	expectLine(t, "( ( all ) seen ( draft 1 ) )", and(and(everything), flag(1), and(flag(16), places(span(1, 1)))))
	expectLine(t, "( seen ( 1 ) )", and(flag(1), and(places(span(1, 1)))))
	expectLine(t, "( not all )", and(not(everything)))
	expectLine(t, "( or all seen )", and(or(everything, flag(1))))
	for _, line := range []string{
		"( )", "( ( ) )", "( ) all", "all ( )", "( all ( ) )", "( ( ) all )", "(", "( (", "( all", "( ( all )", "( all ( seen )", "all (", "all ( seen", ")", ") )", "all )", "( all ) )", ") all", ") (", ") all (", "( all ) ) ( seen )", "( all ) ) seen", "all ) seen", "( all ) (", "( )  )", "( larger ) 3", "( text ) x",
	} {
		expectNoLine(t, line)
	}
}

// Tokens of a Kind that no chapter gives are no keys, nor do they end one.
func TestOtherTokens(t *testing.T) {
	for _, kind := range []int{0, 5, 6, -1, 255, 256, 257, 1 << 32, 1<<32 + 1, -1 << 63, 1<<63 - 1} {
		for _, s := range []string{"", "all", "seen", "1", "not", "(", ")"} {
			other := api.Tok{Kind: kind, Text: s}
			expectNone(t, []api.Tok{other})
			for _, line := range []string{"all", "all seen", "larger 3", "text x", "subject x", "uid 1", "not all", "or all seen", "( all )", "( all seen )"} {
				l := toks(line)
				for at := range len(l) + 1 {
					expectNone(t, append(append(append([]api.Tok{}, l[:at]...), other), l[at:]...))
					if at < len(l) {
						expectNone(t, append(append(append([]api.Tok{}, l[:at]...), other), l[at+1:]...))
					}
				}
			}
		}
	}
}

// Brackets are what they are by their Kind alone.
func TestBracketsWithTexts(t *testing.T) {
	for _, s := range []string{"(", ")", "x", "all", "seen", "not", "1", "\x00"} {
		open, shut := api.Tok{Kind: api.TokOpen, Text: s}, api.Tok{Kind: api.TokClose, Text: s}
		expectKey(t, []api.Tok{open, atom("draft"), shut}, and(flag(16)))
		expectKey(t, []api.Tok{open, atom("draft"), open, atom("2"), shut, shut, atom("all")}, and(flag(16), and(places(span(2, 2)))), everything)
		expectKey(t, []api.Tok{atom("not"), open, atom("draft"), shut}, not(and(flag(16))))
		expectNone(t, []api.Tok{open})
		expectNone(t, []api.Tok{shut})
		expectNone(t, []api.Tok{open, shut})
		expectNone(t, []api.Tok{atom("not"), open})
		expectNone(t, []api.Tok{open, atom("all")})
		expectNone(t, []api.Tok{atom("all"), shut})
	}
	for _, s := range []string{"(", ")"} { // and so are atoms and strings
		expectNone(t, []api.Tok{atom(s), atom("all"), atom(s)})
		expectNone(t, []api.Tok{atom("("), atom("all"), atom(")")})
		expectNone(t, []api.Tok{quoted("("), atom("all"), quoted(")")})
	}
}

// around are ways to stand around a key: what is ahead of it, and behind.
var around = []struct {
	ahead, behind string
	key           func(k api.Key) api.Key
}{
	{"(", ")", func(k api.Key) api.Key { return and(k) }},
	{"( draft", "1 )", func(k api.Key) api.Key { return and(flag(16), k, places(span(1, 1))) }},
	{"not", "", func(k api.Key) api.Key { return not(k) }},
	{"or", "draft", func(k api.Key) api.Key { return or(k, flag(16)) }},
	{"or draft", "", func(k api.Key) api.Key { return or(flag(16), k) }},
	{"or ( ( draft ) )", "", func(k api.Key) api.Key { return or(and(and(flag(16))), k) }},
}

// All ways of up to five within one another: four may be, and beside one another they are no deeper.
func TestDepth(t *testing.T) {
	var deeper func(ahead, behind string, key func(k api.Key) api.Key, deep, most int)
	deeper = func(ahead, behind string, key func(k api.Key) api.Key, deep, most int) {
		for _, inner := range []string{"all", "unseen"} { // the latter's not is no word of its own
			line := ahead + " " + inner + " " + behind
			k := key(lone[inner])
			if most <= api.MaxDeep {
				expectLine(t, line, k)
				expectLine(t, line+" "+line, k, k)
				expectLine(t, "seen "+line, flag(1), k)
			} else {
				expectNoLine(t, line)
				expectNoLine(t, "all "+line)
				expectNoLine(t, line+" all")
			}
		}
		if deep > api.MaxDeep {
			return
		}
		for _, a := range around {
			sides := max(most, deep+1)
			if strings.Count(a.ahead, "(") == 2 {
				sides = max(most, deep+3) // its first key goes deeper
			}
			deeper(ahead+" "+a.ahead, a.behind+" "+behind, func(k api.Key) api.Key { return key(a.key(k)) }, deep+1, sides)
		}
	}
	deeper("", "", func(k api.Key) api.Key { return k }, 0, 0)
}

func TestVeryDeep(t *testing.T) {
	for _, n := range []int{5, 6, 7, 8, 9, 16, 100, 1 << 16, 1 << 18} {
		expectNoLine(t, strings.Repeat("not ", n)+"all")
		expectNoLine(t, strings.Repeat("not ", n))
		expectNoLine(t, strings.Repeat("( ", n)+"all"+strings.Repeat(" )", n))
		expectNoLine(t, strings.Repeat("( ", n))
		expectNoLine(t, strings.Repeat(") ", n))
		expectNoLine(t, strings.Repeat("or ", n)+strings.Repeat("all ", n+1))
		expectNoLine(t, strings.Repeat("or all ", n)+"all")
		expectNoLine(t, strings.Repeat("or not ( ", n)+"all")
	}
}

// Beside one another there may be as many as there are.
func TestVeryLong(t *testing.T) {
	const many = 1 << 15
	for line, k := range map[string]api.Key{
		"all": everything, "unseen": not(flag(1)), "1": places(span(1, 1)), "text x": text("x"), "not not not not all": not(not(not(not(everything)))), "( ( ( ( all ) ) ) )": and(and(and(and(everything)))), "or or or or 1 1 1 1 1": or(or(or(or(places(span(1, 1)), places(span(1, 1))), places(span(1, 1))), places(span(1, 1))), places(span(1, 1))),
	} {
		l := toks(strings.Repeat(line+" ", many))
		got, e := find.Parse(l)
		if e != api.OK || got.Kind != api.KeyAnd || len(got.Kids) != many {
			t.Errorf("Parse of %d times %q is one of %d, error %d", many, line, len(got.Kids), e)
			continue
		}
		for _, kid := range []api.Key{got.Kids[0], got.Kids[many/2], got.Kids[many-1]} {
			if !alike(kid, k) {
				t.Errorf("Parse of %d times %q has %v", many, line, kid)
			}
		}
		within, e := find.Parse(append(append(toks("( "), toks(strings.Repeat("seen ", many))...), toks(")")...))
		if e != api.OK || len(within.Kids) != 1 || len(within.Kids[0].Kids) != many {
			t.Errorf("Parse of %d keys in brackets is one of %d, error %d", many, len(within.Kids), e)
		}
		expectNone(t, append(l, quoted("")))
		expectNone(t, append(l, toks(")")...))
	}
}
