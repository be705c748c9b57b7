package find_test

import (
	"fmt"
	"strings"
	"testing"

	"letterbox/api"
	"letterbox/find"
)

// P18.2

func body(s string) api.Message { return api.Message{Body: []byte(s)} }

func expectMatch(t *testing.T, k api.Key, m api.Message, place, last, lastUID int, want bool) {
	t.Helper()
	if find.Match(k, m, place, last, lastUID) != want {
		t.Errorf("Match of %s, UID %d, flags %d and %.300q, %d, %d, %d is not %t", told(k), m.UID, m.Flags, m.Body, place, last, lastUID, want)
	}
}

// expectIs is expectMatch of a message at place 1 of 1.
func expectIs(t *testing.T, k api.Key, m api.Message, want bool) {
	t.Helper()
	expectMatch(t, k, m, 1, 1, 1, want)
	expectMatch(t, not(k), m, 1, 1, 1, !want)
}

// numbers are those at the edges of all.
var numbers = []int{-1 << 63, -1<<63 + 1, -1 << 31, -api.Star, -1201, -32, -2, -1, 0, 1, 2, 3, 7, 8, 16, 17, 31, 32, 33, 63, 64, 1200, 9999999, 10000000, api.Star - 1, api.Star, api.Star + 1, 1 << 31, 1 << 32, 1<<32 + 1, 1<<63 - 1}

func TestKeyAllAndOtherKinds(t *testing.T) {
	full := api.Key{N: 3, Name: "subject", Text: "x", Set: []api.Range{span(1, api.Star)}, Kids: []api.Key{everything, everything}}
	for _, m := range []api.Message{{}, {UID: 1, Flags: api.AllFlags, Date: 5, Body: []byte("Subject: x\r\n\r\nx")}} {
		for _, place := range numbers {
			expectMatch(t, everything, m, place, 1, 1, true)
			expectMatch(t, everything, m, 1, place, place, true)
		}
		k := full
		k.Kind = api.KeyAll
		expectIs(t, k, m, true)
		for _, kind := range append([]int{12, 13, 255, 256 + 1, 1<<32 + 1, 1<<32 + 11}, numbers...) {
			if kind < api.KeyAll || kind > api.KeyAnd {
				k.Kind = kind
				expectMatch(t, k, m, 1, 1, 1, false)
				expectMatch(t, api.Key{Kind: kind}, m, 1, 1, 1, false)
				expectMatch(t, not(k), m, 1, 1, 1, true)
				expectMatch(t, and(everything, k), m, 1, 1, 1, false)
				expectMatch(t, or(k, everything), m, 1, 1, 1, true)
			}
		}
	}
}

func TestKeyFlag(t *testing.T) {
	for flags := range 2 * (api.AllFlags + 1) {
		for n := range 2 * (api.AllFlags + 1) {
			has := true // bit by bit
			for bit := 1; bit <= n; bit *= 2 {
				if n/bit%2 == 1 && flags/bit%2 == 0 {
					has = false
				}
			}
			expectIs(t, flag(n), api.Message{Flags: flags}, has)
		}
		expectIs(t, flag(-1), api.Message{Flags: flags}, false)
		expectIs(t, flag(-1<<63), api.Message{Flags: flags}, false)
		expectIs(t, flag(1<<40), api.Message{Flags: flags}, false)
		expectIs(t, flag(1<<32+1), api.Message{Flags: flags}, false)
	}
	for _, n := range numbers {
		expectIs(t, flag(n), api.Message{Flags: -1}, true)
		expectIs(t, flag(n), api.Message{Flags: n}, true)
		expectIs(t, flag(n), api.Message{}, n == 0)
		expectIs(t, flag(0), api.Message{Flags: n}, true)
	}
	expectIs(t, flag(api.Seen|api.Draft), api.Message{Flags: api.Seen}, false)
	expectIs(t, flag(api.Seen|api.Draft), api.Message{Flags: api.Seen | api.Draft}, true)
	expectIs(t, flag(api.Seen), api.Message{UID: 1, Date: 1, Body: []byte("\x01")}, false)
}

func TestSizesOfMessages(t *testing.T) {
	for _, size := range []int{0, 1, 2, 3, 4, 255, 256, 257, 1199, 1200, 1201, 1 << 20} {
		m := body(strings.Repeat("x\n\x00", size)[:size])
		for _, n := range append([]int{size - 2, size - 1, size, size + 1, size + 2, -size}, numbers...) {
			expectIs(t, larger(n), m, size > n)
			expectIs(t, smaller(n), m, size < n)
		}
	}
	room := append(make([]byte, 0, 100), "abc"...)
	expectIs(t, larger(3), api.Message{Body: room}, false)
	expectIs(t, smaller(4), api.Message{Body: room}, true)
	expectIs(t, larger(0), api.Message{}, false)
	expectIs(t, larger(-1), api.Message{}, true)
	expectIs(t, smaller(0), api.Message{}, false)
	expectIs(t, smaller(1), api.Message{}, true)
}

const letter = "From: Ann <ann@x>\r\nSUBJECT: Hello  [World]\r\n\tand\r\n  all \r\nTo: \r\nsubject: Other\r\nno field\r\nX: a:b\r\n\r\nCc: Bob\r\nThe Body {of it}\r\n"

func TestKeyText(t *testing.T) {
	for s, want := range map[string]bool{
		"": true, "f": true, "F": true, "From": true, "from: ann": true, "FROM: ANN <ANN@X>\r\nsub": true, "subject: hello  [world]\r\n\tAND": true, "all \r\nto: \r\n": true, "b\r\n\r\ncc:": true, "The Body": true, "THE BODY {OF IT}": true, "it}\r\n": true, "}\r\n": true, "\n": true, "\r\n\r\n": true, letter: true, letter[1:]: true, letter[:len(letter)-1]: true, strings.ToUpper(letter): true, strings.ToLower(letter): true,
		"rom:ann": false, "hello [world]": false, "{world}": false, "[of it]": false, "world]\tand": false, "hello  [world] and": false, "\n\n": false, "\r\r": false, "\x00": false, "bodies": false, "x\r\nThe": false, letter + " ": false, letter + "\x00": false, " " + letter: false, "x" + letter[1:]: false, letter[:len(letter)-1] + "\r": false, letter + letter: false,
	} {
		expectIs(t, text(s), body(letter), want)
	}
	expectIs(t, text(""), api.Message{}, true)
	expectIs(t, text("x"), api.Message{}, false)
	expectIs(t, text("x"), api.Message{UID: 'x', Flags: 'x', Date: 'x'}, false)
	expectIs(t, text("a\nb"), body("xA\nBx"), true)
	expectIs(t, text("aab"), body("aaaab"), true)
	expectIs(t, text("abab"), body("abaabab"), true)
	expectIs(t, text("aba"), body("abbaab"), false)
	room := append(make([]byte, 0, 100), "abcdef"...)
	expectIs(t, text("cd"), api.Message{Body: room[:3]}, false)
	expectIs(t, text("d"), api.Message{Body: room[:3]}, false)
}

// Each byte is itself, a letter is the same letter in the other case too, and nothing else is.
func TestKeyTextOfEachByte(t *testing.T) {
	for x := range 256 {
		for y := range 256 {
			low, high := min(x, y), max(x, y)
			same := x == y || 'A' <= low && low <= 'Z' && high == low+0x20
			a, b := string([]byte{byte(x)}), string([]byte{byte(y)})
			if find.Match(text(a), body(b), 1, 1, 1) != same || find.Match(text("q"+a+"q"), body("pQ"+b+"Qp"), 1, 1, 1) != same {
				t.Errorf("text %q in %q is not %t", a, b, same)
			}
			if find.Match(field("x", "q"+a+"q"), body("X: pq"+b+"qp\n"), 1, 1, 1) != (same && y != '\n') {
				t.Errorf("field with %q in %q is not %t", a, b, same)
			}
		}
	}
	for s, others := range map[string][]string{"k": {"\u212a"}, "s": {"\u017f"}, "i": {"\u0130", "\u0131"}, "\u00e4": {"\u00c4", "\xe4", "\ufffd"}, "\xe4": {"\xc4", "\ufffd", "\u00e4"}, "\xff": {"\ufffd", "\xdf", "\xfe"}, "\ufffd": {"\xff", "\x80"}, "@[\\]^_": {"`{|}~\x7f"}, "`": {"@"}} {
		for _, other := range others {
			expectIs(t, text(s), body(other), false)
			expectIs(t, text(other), body(s), false)
			expectIs(t, field("subject", s), body("Subject: "+other+"\r\n\r\n"), false)
			expectIs(t, text(other), body("x"+other+"x"), true)
		}
	}
}

func TestKeyField(t *testing.T) {
	m := body(letter)
	for _, name := range []string{"subject", "Subject", "SUBJECT", "sUbJeCt"} {
		for s, want := range map[string]bool{
			"": true, "hello": true, "HELLO": true, "Hello  [World]": true, "hello  [world] and all": true, "] AND a": true, "d all": true, "l": true,
			"other": false, "hello [world]": false, "{world}": false, "world]\r\n\tand": false, "and  all": false, "all ": false, " hello": false, "subject": false, ":": false, "hello  [world] and all other": false, "ann": false, "body": false, "\r\n": false,
		} {
			expectIs(t, field(name, s), m, want)
		}
	}
	for name, values := range map[string]map[string]bool{
		"from": {"": true, "ann <ANN@x>": true, "<ann": true, "bob": false, "ann <ann@x>\r\n": false, "ann <ann@x> ": false},
		"to":   {"": true, " ": false, "s": false, "\r\n": false, "subject": false},
		"x":    {"": true, "a:b": true, ":": true, "B": true, "x": false},
		"cc":   {"": false, "bob": false}, "bcc": {"": false, "x": false}, "": {"": false, "x": false}, "no field": {"": false, "no": false}, "fro": {"": false}, "from:": {"": false}, "rom": {"": false}, "subject ": {"": false}, "Hello": {"": false}, "the body": {"": false},
	} {
		for s, want := range values {
			expectIs(t, field(name, s), m, want)
			expectIs(t, field(strings.ToUpper(name), strings.ToUpper(s)), m, want)
		}
	}
	expectIs(t, field("\u017fubject", ""), m, false)
}

// Which field is asked, and for which heads there is none.
func TestKeyFieldOfOtherHeads(t *testing.T) {
	for _, c := range []struct {
		head, name, s string
		want          bool
	}{
		{"", "subject", "", false}, {"\r\n", "subject", "", false}, {"Subject", "subject", "", false}, {"Subject:", "subject", "", true}, {"Subject:", "subject", "x", false}, {"Subject:x", "subject", "x", true}, {"Subject : x ", "subject", "x", true}, {"subject:\tX\t\n", "Subject", "x", true},
		{"\nSubject: x\n", "subject", "x", false}, {"\r\nSubject: x\r\n", "subject", "x", false}, {"To: y\n\nSubject: x\n", "subject", "x", false}, {"To: y\n\nSubject: x\n", "subject", "", false}, {"To: y\n\nTo: x\n", "to", "x", false}, {"To: y\n\n x\n", "to", "x", false},
		{"Subject: x\nSubject: y\n", "subject", "x", true}, {"Subject: x\nSubject: y\n", "subject", "y", false}, {"Subject:\nSubject: y\n", "subject", "y", false}, {"Subject:\nSubject: y\n", "subject", "", true}, {"SUBJECT: x\nsubject: y\n", "subject", "y", false}, {"SUBJECT: x\nsubject: y\n", "subject", "x", true}, {"Subjects: x\nSubject: y\n", "subject", "y", true},
		{"Subject: a\n b\n", "subject", "a b", true}, {"Subject: a\n b\n\tc\nTo: d\n", "subject", "A B C", true}, {"Subject: a\n b\n\tc\nTo: d\n", "subject", "d", false}, {"Subject:\n b\n", "subject", " b", true}, {"Subject: a\n b\n", "subject", "a\n b", false}, {" x\nSubject: a\n", "subject", "x", false},
		{": x\n", "", "x", true}, {": x\n", "", "", true}, {"To: x\n", "", "", false}, {"To: x\n", "to:", "", false}, {"a b: x\n", "A B", "X", true}, {"T\x00o: \x00\xff\n", "t\x00O", "\x00\xff", true}, {"To: x\x00y\n", "to", "y", true}, {"To: \u00c4\n", "to", "\u00e4", false}, {"\u00c4: x\n", "\u00e4", "x", false}, {"\u00c4: x\n", "\u00c4", "x", true}, {"[: x\n", "{", "x", false},
	} {
		expectIs(t, field(c.name, c.s), body(c.head), c.want)
	}
	expectIs(t, field("", ""), api.Message{}, false)
	expectIs(t, api.Key{Kind: api.KeyField}, body(letter), false)
}

// What a set has in it, for each place and each last one of a few.
func TestKeySetAndKeyUID(t *testing.T) {
	ends := []int{1, 2, 3, 4, 5, 9, api.Star}
	for _, from := range ends {
		for _, to := range ends {
			for _, last := range []int{-1, 0, 1, 2, 3, 4, 5, 6, 9, 10, api.Star} {
				for n := -1; n <= 11; n++ {
					low, high := from, to
					if from == api.Star {
						low = last
					}
					if to == api.Star {
						high = last
					}
					if low > high {
						low, high = high, low
					}
					want := n >= 1 && low <= n && n <= high
					expectMatch(t, places(span(from, to)), api.Message{UID: 77}, n, last, 88, want)
					expectMatch(t, uids(span(from, to)), api.Message{UID: n}, 77, 88, last, want)
					expectMatch(t, places(span(7, 7), span(from, to)), api.Message{UID: 77}, n, last, 88, want || n == 7)
					expectMatch(t, uids(span(from, to), span(7, 7)), api.Message{UID: n}, 77, 88, last, want || n == 7)
				}
			}
		}
	}
}

func TestSetsAtTheEdges(t *testing.T) {
	for _, n := range numbers {
		for _, last := range numbers {
			m := api.Message{UID: n}
			expectMatch(t, places(), m, n, last, last, false)
			expectMatch(t, uids(), m, n, last, last, false)
			expectMatch(t, api.Key{Kind: api.KeySet, Set: []api.Range{}}, m, n, last, last, false)
			expectMatch(t, places(span(api.Star, api.Star)), m, n, last, 5, n >= 1 && n == last)
			expectMatch(t, uids(span(api.Star, api.Star)), m, 5, 5, last, n >= 1 && n == last)
			expectMatch(t, places(span(1, api.Star)), m, n, last, 5, n >= 1 && n <= max(1, last))
			expectMatch(t, uids(span(1, api.Star)), m, 5, 5, last, n >= 1 && n <= max(1, last))
			expectMatch(t, places(span(n, n)), m, n, 5, 5, n >= 1 && n != api.Star)
			expectMatch(t, uids(span(n, n)), m, 5, 5, 5, n >= 1 && n != api.Star)
		}
	}
	m := api.Message{UID: 7}
	expectMatch(t, uids(span(3, 3)), m, 3, 9, 9, false)
	expectMatch(t, places(span(7, 7)), m, 3, 9, 9, false)
	expectMatch(t, places(span(3, 3)), m, 3, 1, 1, true)                          // though 1 is the last one
	expectMatch(t, uids(span(5, api.Star)), m, 3, 9, 3, false)                    // 3 to 5
	expectMatch(t, places(span(5, api.Star)), api.Message{UID: 1}, 4, 3, 9, true) // 3 to 5, too
	for s, set := range sets {
		expectMatch(t, places(set...), m, 1, 1, 1, s != "7" && s != "9999999") // all others have 1
	}
}

func TestKids(t *testing.T) {
	yes, no := everything, api.Key{}
	truth := func(k api.Key) bool { return k.Kind == api.KeyAll }
	var all func(kids []api.Key)
	all = func(kids []api.Key) {
		wantNot := len(kids) > 0 && !truth(kids[0])
		wantOr := len(kids) > 0 && truth(kids[0]) || len(kids) > 1 && truth(kids[1])
		wantAnd := true
		for _, kid := range kids {
			wantAnd = wantAnd && truth(kid)
		}
		for _, m := range []api.Message{{}, body(letter)} {
			expectMatch(t, not(kids...), m, 1, 1, 1, wantNot)
			expectMatch(t, or(kids...), m, 1, 1, 1, wantOr)
			expectMatch(t, and(kids...), m, 1, 1, 1, wantAnd)
			expectMatch(t, not(not(kids...)), m, 1, 1, 1, !wantNot)
			expectMatch(t, not(or(kids...)), m, 1, 1, 1, !wantOr)
			expectMatch(t, not(and(kids...)), m, 1, 1, 1, !wantAnd)
			expectMatch(t, or(no, and(kids...)), m, 1, 1, 1, wantAnd)
			expectMatch(t, or(no, no, and(kids...)), m, 1, 1, 1, false)
			expectMatch(t, and(yes, or(kids...), yes), m, 1, 1, 1, wantOr)
			expectMatch(t, and(not(kids...), or(kids...)), m, 1, 1, 1, wantNot && wantOr)
			expectMatch(t, and(and(and(and(and(and(kids...)))))), m, 1, 1, 1, wantAnd) // deeper than what is parsed
		}
		if len(kids) < 5 {
			all(append(kids[:len(kids):len(kids)], yes))
			all(append(kids[:len(kids):len(kids)], no))
		}
	}
	all(nil)
	all([]api.Key{})
	rest := []api.Key{yes, no, yes, yes}
	expectMatch(t, not(rest[1:1]...), api.Message{}, 1, 1, 1, false) // what stands behind a list's end is none of it
	expectMatch(t, or(rest[1:2]...), api.Message{}, 1, 1, 1, false)
	expectMatch(t, or(rest[1:1]...), api.Message{}, 1, 1, 1, false)
	expectMatch(t, and(rest[:1]...), api.Message{}, 1, 1, 1, true)
}

// Kids are asked of the same message, at the same place, with the same last ones.
func TestKidsAreOfTheMessage(t *testing.T) {
	m := api.Message{UID: 7, Flags: api.Seen, Body: []byte(letter)}
	for _, k := range []api.Key{flag(1), larger(len(letter) - 1), smaller(len(letter) + 1), text("hello"), field("from", "ann"), places(span(3, 3)), places(span(4, api.Star)), uids(span(7, 7)), uids(span(8, api.Star))} {
		for _, kid := range []api.Key{k, and(k), or(k), or(k, api.Key{}), or(api.Key{}, k), and(everything, k), not(not(k)), and(or(not(not(and(k)))))} {
			expectMatch(t, kid, m, 3, 3, 6, true)
			expectMatch(t, not(kid), m, 3, 3, 6, false)
		}
	}
	for _, k := range []api.Key{places(span(4, api.Star)), uids(span(8, api.Star))} {
		for _, kid := range []api.Key{k, and(k), or(k), not(not(k))} {
			expectMatch(t, kid, m, 3, 4, 8, false)
			expectMatch(t, kid, m, 5, 6, 5, true)
		}
	}
	expectMatch(t, and(not(flag(1)), larger(3)), body("abcd"), 1, 1, 1, true) // unseen larger 3, of four bytes, no flags
	expectMatch(t, and(not(flag(1)), larger(3)), body("abc"), 1, 1, 1, false)
}

func TestVeryLongKeys(t *testing.T) {
	const n = 1 << 20
	long := body("Subject: " + strings.Repeat("aB", n) + "c\r\n\r\n" + strings.Repeat("ab", n))
	expectIs(t, text(strings.Repeat("Ab", n)+"C"), long, true)
	expectIs(t, text(strings.Repeat("Ab", n)+"Cc"), long, false)
	expectIs(t, text(strings.Repeat("Ab", n/2)+"C"), long, true)
	expectIs(t, text(strings.Repeat("Ab", n/2)+"aC"), long, false)
	expectIs(t, text(strings.Repeat("Ab", n/2)+"d"), long, false)
	expectIs(t, text(strings.Repeat("ab", 3*n)), long, false)
	expectIs(t, field("subject", strings.Repeat("Ab", n/2)+"C"), long, true)
	expectIs(t, field("subject", strings.Repeat("Ab", n)+"cC"), long, false)
	expectIs(t, field(strings.Repeat("subject", n), ""), long, false)
	many := make([]api.Key, n)
	for i := range many {
		many[i] = everything
	}
	expectIs(t, and(many...), long, true)
	many[n-1] = flag(1)
	expectIs(t, and(many...), long, false)
	expectIs(t, not(many...), long, false)
	set := make([]api.Range, n)
	for i := range set {
		set[i] = span(n-i, n-i)
	}
	expectMatch(t, places(set...), long, 1, 1, 1, true)
	expectMatch(t, places(set...), long, n+1, 1, 1, false)
	expectMatch(t, uids(set...), api.Message{UID: n}, 1, 1, 1, true)
}

// Keys within keys, as many as the document knows.
func TestVeryDeepKeys(t *testing.T) {
	const most = 1 << 16
	for name, around := range map[string]func(k api.Key) api.Key{
		"not": func(k api.Key) api.Key { return not(k) },
		"or":  func(k api.Key) api.Key { return or(api.Key{}, k) },
		"and": func(k api.Key) api.Key { return and(everything, k) },
	} {
		k, j := flag(1), flag(2)
		for range most {
			k, j = around(k), around(j)
		}
		if !find.Match(k, api.Message{Flags: 1}, 1, 1, 1) || find.Match(k, api.Message{Flags: 2}, 1, 1, 1) {
			t.Errorf("Match of %s as deep as that", name)
		}
		if !find.Same(k, k) || find.Same(k, j) || find.Same(k, around(k)) || find.Same(around(k), k) {
			t.Errorf("Same of %s as deep as that", name)
		}
	}
}

// Same: all fields

func expectSame(t *testing.T, a, b api.Key, want bool) {
	t.Helper()
	if find.Same(a, b) != want || find.Same(b, a) != want {
		t.Errorf("Same of %s and %s is not %t", told(a), told(b), want)
	}
}

// others are keys each of which differs from all others, in one field or in more.
func others() []api.Key {
	var l []api.Key
	for _, n := range append([]int{4, 5, 6, 9, 10, 11, 12}, numbers...) {
		if n != 0 {
			l = append(l, api.Key{Kind: n}, api.Key{N: n})
		}
	}
	for _, s := range []string{" ", "x", "X", "xy", "x ", "x\x00", "\x00", "\xff", "\u00e4", "\u00c4", "subject", "Subject"} {
		l = append(l, api.Key{Name: s}, api.Key{Text: s}, api.Key{Name: s, Text: s})
	}
	one, two := span(1, 2), span(2, 1)
	for _, set := range [][]api.Range{{{}}, {{}, {}}, {one}, {two}, {span(1, 1)}, {span(2, 2)}, {span(1, api.Star)}, {one, one}, {one, two}, {two, one}, {one, one, one}, {one, {}}} {
		l = append(l, api.Key{Set: set})
	}
	x, y := flag(1), flag(2)
	for _, kids := range [][]api.Key{{{}}, {{}, {}}, {x}, {y}, {x, x}, {x, y}, {y, x}, {x, y, y}, {x, {}}, {{}, x}, {and(x)}, {and(x, y)}, {and(y, x)}, {and(x), y}, {and(), x}, {x, and()}, {or(x)}, {not(x)}, {and(and(x))}} {
		l = append(l, api.Key{Kids: kids})
	}
	return append(l, api.Key{})
}

func TestSame(t *testing.T) {
	l, again := others(), others()
	for i, a := range l {
		for j, b := range again {
			expectSame(t, a, b, i == j)
			for name, around := range map[string]func(k api.Key) api.Key{
				"not": func(k api.Key) api.Key { return not(k) },
				"and": func(k api.Key) api.Key { return and(flag(1), k, everything) },
				"or":  func(k api.Key) api.Key { return or(k, and(and(or(flag(3), and(k))))) },
				"all": func(k api.Key) api.Key {
					return api.Key{Kind: 3, N: 4, Name: "n", Text: "t", Set: []api.Range{span(1, 2)}, Kids: []api.Key{k}}
				},
			} {
				if find.Same(around(a), around(b)) != (i == j) {
					t.Errorf("Same within %s of %v and %v", name, a, b)
				}
			}
		}
	}
}

// Of two keys that have all fields, one is changed in one field at a time, at each depth.
func TestSameOfEachField(t *testing.T) {
	full := func(kids ...api.Key) api.Key {
		return api.Key{Kind: 7, N: 3, Name: "name", Text: "text", Set: []api.Range{span(1, 2), span(3, api.Star)}, Kids: kids}
	}
	changes := []func(k *api.Key){
		func(k *api.Key) { k.Kind++ }, func(k *api.Key) { k.Kind += 1 << 32 }, func(k *api.Key) { k.N-- }, func(k *api.Key) { k.N = -k.N }, func(k *api.Key) { k.N += 1 << 32 }, func(k *api.Key) { k.Name = "Name" }, func(k *api.Key) { k.Name = "" }, func(k *api.Key) { k.Name += "x" }, func(k *api.Key) { k.Text = "Text" }, func(k *api.Key) { k.Text = "" }, func(k *api.Key) { k.Text += "x" }, func(k *api.Key) { k.Name, k.Text = k.Text, k.Name },
		func(k *api.Key) { k.Set = nil }, func(k *api.Key) { k.Set = k.Set[:1] }, func(k *api.Key) { k.Set = k.Set[1:] }, func(k *api.Key) { k.Set = append(k.Set[:2:2], span(1, 1)) }, func(k *api.Key) { k.Set[0].From++ }, func(k *api.Key) { k.Set[0].To++ }, func(k *api.Key) { k.Set[1].From++ }, func(k *api.Key) { k.Set[1].To++ }, func(k *api.Key) { k.Set[0], k.Set[1] = k.Set[1], k.Set[0] }, func(k *api.Key) { k.Set[0] = span(2, 1) },
		func(k *api.Key) { k.Kids = append(k.Kids[:len(k.Kids):len(k.Kids)], api.Key{}) }, func(k *api.Key) { k.Kids = append([]api.Key{{}}, k.Kids...) },
	}
	tree := func() *api.Key {
		k := full(full(full()), full(full(), full(full())))
		return &k
	}
	paths := [][]int{{}, {0}, {1}, {0, 0}, {1, 0}, {1, 1}, {1, 1, 0}}
	expectSame(t, *tree(), *tree(), true)
	for _, path := range paths {
		for i, change := range changes {
			other := tree()
			at := other
			for _, place := range path {
				at = &at.Kids[place]
			}
			change(at)
			if find.Same(*tree(), *other) || find.Same(*other, *tree()) {
				t.Errorf("Same of a key and one that change %d at %v was done to", i, path)
			}
			expectSame(t, *other, *other, true)
		}
		if len(path) > 0 {
			other := tree()
			at := other
			for _, place := range path[:len(path)-1] {
				at = &at.Kids[place]
			}
			at.Kids = append(at.Kids[:path[len(path)-1]:path[len(path)-1]], at.Kids[path[len(path)-1]+1:]...)
			expectSame(t, *tree(), *other, false)
		}
	}
	expectSame(t, api.Key{Set: []api.Range{}, Kids: []api.Key{}}, api.Key{}, true)
	expectSame(t, and(api.Key{Set: []api.Range{}, Kids: []api.Key{}}), and(api.Key{}), true)
	expectSame(t, api.Key{Set: make([]api.Range, 1, 9)}, api.Key{Set: make([]api.Range, 1)}, true)
	expectSame(t, api.Key{Kids: make([]api.Key, 1, 9)}, api.Key{Kids: make([]api.Key, 1)}, true)
	expectSame(t, or(flag(1), flag(2)), or(flag(2), flag(1)), false) // though both match the same ones
	expectSame(t, not(not(flag(1))), flag(1), false)
	expectSame(t, places(span(1, 1), span(2, 2)), places(span(1, 2)), false)
	for _, n := range numbers {
		expectSame(t, flag(n), flag(n), true)
		expectSame(t, text(fmt.Sprint(n)), text(fmt.Sprint(n)), true)
	}
}
