package find_test

import (
	"math/rand"
	"regexp"
	"slices"
	"strconv"
	"strings"
	"testing"

	"letterbox/api"
	"letterbox/find"
)

// letterToks are tokens, a letter each.
var letterToks = map[byte]api.Tok{
	'a': atom("all"), 'u': atom("Unseen"), 'n': atom("NOT"), 'o': atom("or"), '(': {Kind: api.TokOpen}, ')': {Kind: api.TokClose}, 't': atom("text"), 'l': atom("larger"), 'i': atom("uid"), '1': atom("1"), 's': quoted("1"), 'x': atom("x"), '?': {Kind: 5},
}

func letterLine(letters string) []api.Tok {
	var l []api.Tok
	for at := range len(letters) {
		l = append(l, letterToks[letters[at]])
	}
	return l
}

// grammar writes all keys that there are, of so many tokens and with so much left of MaxDeep, and how they are written in letters.
type grammar struct {
	letters string
	keys    map[[2]int]map[string]api.Key
	rows    map[[2]int]map[string][]api.Key
}

func (g *grammar) has(letter string) bool { return strings.Contains(g.letters, letter) }

// key is all keys of n tokens.
func (g *grammar) key(n, left int) map[string]api.Key {
	if l, has := g.keys[[2]int{n, left}]; has {
		return l
	}
	all := map[string]api.Key{}
	g.short(n, all)
	if left > 0 && n > 1 {
		if g.has("n") {
			for s, k := range g.key(n-1, left-1) {
				all["n"+s] = not(k)
			}
		}
		for first := 1; g.has("o") && first < n-1; first++ {
			for s, k := range g.key(first, left-1) {
				for r, j := range g.key(n-1-first, left-1) {
					all["o"+s+r] = or(k, j)
				}
			}
		}
		if g.has("(") && n > 2 {
			for s, kids := range g.row(n-2, left-1) {
				all["("+s+")"] = and(kids...)
			}
		}
	}
	g.keys[[2]int{n, left}] = all
	return all
}

// short puts the keys of one and two tokens that no other keys stand in.
func (g *grammar) short(n int, all map[string]api.Key) {
	put := func(s string, k api.Key) {
		for at := range len(s) {
			if !g.has(s[at : at+1]) {
				return
			}
		}
		all[s] = k
	}
	switch n {
	case 1:
		put("a", everything)
		put("u", not(flag(1)))
		put("1", places(span(1, 1)))
	case 2:
		put("l1", larger(1))
		put("i1", uids(span(1, 1)))
		for letter, tok := range letterToks {
			if tok.Kind == api.TokAtom || tok.Kind == api.TokString {
				put("t"+string(letter), text(tok.Text))
			}
		}
	}
}

// row is all rows of keys of n tokens.
func (g *grammar) row(n, left int) map[string][]api.Key {
	if l, has := g.rows[[2]int{n, left}]; has {
		return l
	}
	all := map[string][]api.Key{}
	for s, k := range g.key(n, left) {
		all[s] = []api.Key{k}
	}
	for first := 1; first < n; first++ {
		for s, k := range g.key(first, left) {
			for r, kids := range g.row(n-first, left) {
				all[s+r] = append([]api.Key{k}, kids...)
			}
		}
	}
	g.rows[[2]int{n, left}] = all
	return all
}

// P18.1: all short rows of these tokens, against all keys that can be written by the chapter's words.
func TestShortRows(t *testing.T) {
	for letters, longest := range map[string]int{"auno()tli1sx?": 4, "ano()t1s": 5, "an(o)": 7, "a()": 11, "ao": 12, "an": 8, "ano": 10, "(na)": 9} {
		g := &grammar{letters, map[[2]int]map[string]api.Key{}, map[[2]int]map[string][]api.Key{}}
		good, bad := 0, 0
		var longer func(s string)
		longer = func(s string) {
			if kids, is := g.row(len(s), api.MaxDeep)[s]; is && s != "" {
				expectKey(t, letterLine(s), kids...)
				good++
			} else {
				expectNone(t, letterLine(s))
				bad++
			}
			if len(s) == longest {
				return
			}
			for at := range len(letters) {
				longer(s + letters[at:at+1])
			}
		}
		longer("")
		if good < 50 || bad < 100 {
			t.Errorf("the test's own: of %q %d, %d", letters, good, bad)
		}
	}
}

// drawnKey is a key that Parse can tell, its tokens, and how deep it is.
func drawnKey(r *rand.Rand, most int) (api.Key, []api.Tok, int) {
	flags := []string{"seen", "answered", "flagged", "deleted", "draft"}
	kind := api.KeyAll + r.Intn(api.KeyUID)
	if most > 0 && r.Intn(3) > 0 {
		kind = api.KeyNot + r.Intn(3)
	}
	word := func(s string) api.Tok {
		b := []byte(s)
		for at := range b {
			if r.Intn(3) == 0 {
				b[at] = strings.ToUpper(s)[at]
			}
		}
		return atom(string(b))
	}
	n := r.Intn(1 << r.Intn(23))
	size := strconv.Itoa(n)
	size = strings.Repeat("0", r.Intn(8-len(size))) + size
	asked := []string{"", "a", "B", "ab", "Ab c", "all", "x\x00", "1"}[r.Intn(8)]
	askedTok := api.Tok{Kind: api.TokAtom + r.Intn(2), Text: asked}
	set, setText := drawnSet(r)
	name := []string{"subject", "from", "to"}[r.Intn(3)]
	switch kind {
	case api.KeyFlag:
		bit := r.Intn(5)
		if r.Intn(2) == 0 {
			return not(flag(1 << bit)), []api.Tok{word("un" + flags[bit])}, 0
		}
		return flag(1 << bit), []api.Tok{word(flags[bit])}, 0
	case api.KeyLarger:
		return larger(n), []api.Tok{word("larger"), atom(size)}, 0
	case api.KeySmaller:
		return smaller(n), []api.Tok{word("smaller"), atom(size)}, 0
	case api.KeyText:
		return text(asked), []api.Tok{word("text"), askedTok}, 0
	case api.KeyField:
		return field(name, asked), []api.Tok{word(name), askedTok}, 0
	case api.KeySet:
		return places(set...), []api.Tok{atom(setText)}, 0
	case api.KeyUID:
		return uids(set...), []api.Tok{word("uid"), atom(setText)}, 0
	case api.KeyNot:
		k, l, deep := drawnKey(r, most-1)
		return not(k), append([]api.Tok{word("not")}, l...), deep + 1
	case api.KeyOr:
		k, l, deep := drawnKey(r, most-1)
		j, m, deeper := drawnKey(r, most-1)
		return or(k, j), slices.Concat([]api.Tok{word("or")}, l, m), max(deep, deeper) + 1
	case api.KeyAnd:
		kids, l, deep := drawnRow(r, most-1)
		return and(kids...), slices.Concat(toks("("), l, toks(")")), deep + 1
	}
	return everything, []api.Tok{word("all")}, 0
}

func drawnRow(r *rand.Rand, most int) (kids []api.Key, l []api.Tok, deep int) {
	for range 1 + r.Intn(3) {
		k, more, deeper := drawnKey(r, most)
		kids, l, deep = append(kids, k), append(l, more...), max(deep, deeper)
	}
	return kids, l, deep
}

func drawnSet(r *rand.Rand) ([]api.Range, string) {
	var set []api.Range
	var texts []string
	number := func() (int, string) {
		if r.Intn(5) == 0 {
			return api.Star, "*"
		}
		n := 1 + r.Intn(9)
		return n, strconv.Itoa(n)
	}
	for range 1 + r.Intn(3) {
		from, first := number()
		to, second := from, first
		if r.Intn(2) == 0 {
			to, second = number()
			first += ":" + second
		}
		set, texts = append(set, span(from, to)), append(texts, first)
	}
	return set, strings.Join(texts, ",")
}

// Keys drawn and written; as they are, and with a token less, more or another.
func TestRandomKeys(t *testing.T) {
	r := rand.New(rand.NewSource(1))
	all := map[api.Errno]int{}
	others := 0
	for range 30000 {
		kids, l, deep := drawnRow(r, r.Intn(api.MaxDeep+3))
		if deep <= api.MaxDeep {
			expectKey(t, l, kids...)
			all[api.OK]++
		} else {
			expectNone(t, l)
			all[api.ErrForm]++
		}
		at := r.Intn(len(l))
		other := slices.Clone(l)
		switch r.Intn(3) {
		case 0:
			other = slices.Delete(other, at, at+1)
		case 1:
			other = slices.Insert(other, at, l[r.Intn(len(l))])
		case 2:
			other[at] = l[r.Intn(len(l))]
		}
		want, good := plainParse(other)
		if good {
			expectKey(t, other, want...)
			others++
		} else {
			expectNone(t, other)
		}
	}
	if all[api.OK] < 10000 || all[api.ErrForm] < 2000 || others < 2000 {
		t.Errorf("the test's own: %v, %d", all, others)
	}
}

// plainParse is what Parse is to tell. It goes from the end to the beginning: what is read of keys behind waits on a pile.
func plainParse(l []api.Tok) ([]api.Key, bool) {
	whats := plainWords(l)
	type piece struct {
		key  api.Key
		deep int
		shut bool
	}
	var pile []piece
	for at := len(l) - 1; at >= 0; at-- {
		top := len(pile) - 1
		ready := 0 // keys at the top
		for ready <= top && !pile[top-ready].shut {
			ready++
		}
		switch what := whats[at]; {
		case what == "more":
		case what == "":
			return nil, false
		case what == ")":
			pile = append(pile, piece{shut: true})
		case what == "(":
			if ready == 0 || ready == len(pile) {
				return nil, false
			}
			k, deep := api.Key{Kind: api.KeyAnd}, 0
			for range ready {
				last := pile[len(pile)-1]
				k.Kids, deep = append(k.Kids, last.key), max(deep, last.deep)
				pile = pile[:len(pile)-1]
			}
			pile[len(pile)-1] = piece{key: k, deep: deep + 1}
		case what == "not" && ready >= 1:
			pile[top] = piece{key: not(pile[top].key), deep: pile[top].deep + 1}
		case what == "or" && ready >= 2:
			pile[top-1] = piece{key: or(pile[top].key, pile[top-1].key), deep: max(pile[top].deep, pile[top-1].deep) + 1}
			pile = pile[:top]
		case what == "key":
			pile = append(pile, piece{key: plainKey(l[at:])})
		default:
			return nil, false
		}
	}
	var kids []api.Key
	for _, p := range slices.Backward(pile) {
		if p.shut || p.deep > api.MaxDeep {
			return nil, false
		}
		kids = append(kids, p.key)
	}
	return kids, len(kids) > 0
}

// plainWords tells what each token is: a bracket, not, or, a key, what belongs to the key ahead, or nothing of these.
func plainWords(l []api.Tok) []string {
	whats := make([]string, len(l))
	for at := 0; at < len(l); at++ {
		word := strings.ToLower(l[at].Text)
		switch l[at].Kind {
		case api.TokOpen:
			whats[at] = "("
		case api.TokClose:
			whats[at] = ")"
		case api.TokAtom:
			whats[at] = "key"
			if word == "not" || word == "or" {
				whats[at] = word
			} else if slices.Contains([]string{"larger", "smaller", "text", "subject", "from", "to", "uid"}, word) {
				if plainKey(l[at:]).Kind == 0 {
					whats[at] = ""
				} else {
					at++
					whats[at] = "more"
				}
			} else if plainKey(l[at:]).Kind == 0 {
				whats[at] = ""
			}
		}
	}
	return whats
}

// plainKey is the key of one or two tokens that l begins with.
func plainKey(l []api.Tok) api.Key {
	word := strings.ToLower(l[0].Text)
	next := api.Tok{}
	if len(l) > 1 {
		next = l[1]
	}
	n, err := strconv.Atoi(next.Text)
	sized := next.Kind == api.TokAtom && err == nil && n >= 0 && len(next.Text) <= 7 && next.Text[0] != '+' && next.Text[0] != '-'
	texted := next.Kind == api.TokAtom || next.Kind == api.TokString
	switch {
	case lone[word].Kind != 0:
		return lone[word]
	case word == "larger" && sized:
		return larger(n)
	case word == "smaller" && sized:
		return smaller(n)
	case word == "text" && texted:
		return text(next.Text)
	case (word == "subject" || word == "from" || word == "to") && texted:
		return field(word, next.Text)
	case word == "uid":
		return plainSet(api.KeyUID, next)
	}
	return plainSet(api.KeySet, l[0])
}

var aSet = regexp.MustCompile(`\A(?:\*|[1-9][0-9]{0,6})(?::(?:\*|[1-9][0-9]{0,6}))?(?:,(?:\*|[1-9][0-9]{0,6})(?::(?:\*|[1-9][0-9]{0,6}))?){0,15}\z`)

// plainSet is a key of the set that an atom is.
func plainSet(kind int, tok api.Tok) api.Key {
	if tok.Kind != api.TokAtom || !aSet.MatchString(tok.Text) {
		return api.Key{}
	}
	number := func(s string) int {
		if s == "*" {
			return api.Star
		}
		n, _ := strconv.Atoi(s)
		return n
	}
	k := api.Key{Kind: kind}
	for _, r := range strings.Split(tok.Text, ",") {
		from, to, two := strings.Cut(r, ":")
		if !two {
			to = from
		}
		k.Set = append(k.Set, span(number(from), number(to)))
	}
	return k
}

// plainMatch is what Match is to tell of a key that Parse told.
func plainMatch(k api.Key, m api.Message, place, last, lastUID int) bool {
	var truths []bool
	for _, kid := range k.Kids {
		truths = append(truths, plainMatch(kid, m, place, last, lastUID))
	}
	// Each byte of the texts here is one rune, so that no other letter than A to Z is one of a to z.
	stands := func(s string) bool {
		return regexp.MustCompile("(?i)" + regexp.QuoteMeta(k.Text)).MatchString(s)
	}
	within := func(n, last int) bool {
		return slices.ContainsFunc(k.Set, func(r api.Range) bool {
			ends := []int{r.From, r.To}
			for at := range ends {
				if ends[at] == api.Star {
					ends[at] = last
				}
			}
			slices.Sort(ends)
			return n > 0 && ends[0] <= n && n <= ends[1]
		})
	}
	switch k.Kind {
	case api.KeyFlag:
		return m.Flags|k.N == m.Flags
	case api.KeyLarger:
		return len(m.Body)-k.N > 0
	case api.KeySmaller:
		return k.N-len(m.Body) > 0
	case api.KeyText:
		return stands(string(m.Body))
	case api.KeyField:
		head, _, _ := strings.Cut("\n"+string(m.Body), "\n\n")
		field := regexp.MustCompile("(?im)^" + k.Name + ": *(.*?) *$").FindStringSubmatch(head)
		return field != nil && stands(field[1])
	case api.KeySet:
		return within(place, last)
	case api.KeyUID:
		return within(m.UID, lastUID)
	case api.KeyNot:
		return !truths[0]
	case api.KeyOr:
		return truths[0] || truths[1]
	case api.KeyAnd:
		return !slices.Contains(truths, false)
	}
	return k.Kind == api.KeyAll
}

// drawnMessage is one of a few lines; the names of fields begin them, in the head and behind it.
func drawnMessage(r *rand.Rand) api.Message {
	var b strings.Builder
	for range r.Intn(7) {
		for range r.Intn(3) {
			b.WriteString([]string{"subject:", "Subject: ", "FROM: ", "to:", "TO: ", "x: ", "a"}[r.Intn(7)])
		}
		for range r.Intn(4) {
			b.WriteString([]string{"a", "B", "ab c", "AB C", "all", "x\x00", "1", ":"}[r.Intn(8)])
		}
		b.WriteString("\n")
	}
	return api.Message{UID: r.Intn(12), Flags: r.Intn(api.AllFlags + 1), Date: r.Intn(9), Body: []byte(b.String())}
}

// P18.2
func TestRandomMatches(t *testing.T) {
	r := rand.New(rand.NewSource(2))
	kinds := map[int]map[bool]int{}
	for range 60000 {
		k, _, _ := drawnKey(r, r.Intn(4))
		m, place, last, lastUID := drawnMessage(r), r.Intn(12), r.Intn(12), r.Intn(12)
		if k.Kind == api.KeyLarger || k.Kind == api.KeySmaller {
			k.N %= 40
		}
		want := plainMatch(k, m, place, last, lastUID)
		expectMatch(t, k, m, place, last, lastUID, want)
		if kinds[k.Kind] == nil {
			kinds[k.Kind] = map[bool]int{}
		}
		kinds[k.Kind][want]++
		j, _, _ := drawnKey(r, r.Intn(2))
		expectSame(t, k, j, alike(k, j))
	}
	for kind := api.KeyFlag; kind <= api.KeyAnd; kind++ {
		if kinds[kind][true] < 300 || kinds[kind][false] < 300 {
			t.Errorf("the test's own: %v", kinds)
		}
	}
}

// rowOf is bytes as tokens.
func rowOf(b []byte) []api.Tok {
	words := []api.Tok{
		{Kind: api.TokOpen}, {Kind: api.TokClose}, atom("not"), atom("or"), atom("all"), atom("seen"), atom("unDeleted"), atom("larger"), atom("SMALLER"), atom("text"), atom("subject"), atom("to"), atom("uid"), atom("1"), atom("0012"), atom("5:*,2"), quoted("a"), quoted(""), {}, {Kind: 5, Text: "all"},
	}
	var l []api.Tok
	for _, x := range b {
		if int(x) < len(words) {
			l = append(l, words[x])
		} else if x < 128 {
			l = append(l, atom(string(rune(x))))
		} else if len(l) > 0 {
			l[len(l)-1].Text += string([]byte{x - 96})
		}
	}
	return l
}

func FuzzFind(f *testing.F) {
	f.Add([]byte{0, 2, 4, 1}, []byte("Subject: a\n\nb"), 1)
	f.Add([]byte{3, 6, 7, 13, 9, 16, 12, 15}, []byte(""), 31)
	f.Fuzz(func(t *testing.T, row, body []byte, n int) {
		l := rowOf(row)
		kids, good := plainParse(l)
		if !good {
			expectNone(t, l)
			return
		}
		expectKey(t, l, kids...)
		m := api.Message{UID: n, Flags: n, Body: body}
		all := true
		for _, kid := range kids {
			all = find.Match(kid, m, n, n, n) && all
			expectMatch(t, not(kid), m, n, n, n, !find.Match(kid, m, n, n, n))
			expectSame(t, kid, kid, true)
			expectSame(t, kid, not(kid), false)
		}
		expectMatch(t, and(kids...), m, n, n, n, all)
	})
}

// P18.3, and what holds everywhere

// soil overwrites a key's lists and the spare room behind their ends, at each depth.
func soil(k api.Key) {
	for _, kid := range k.Kids {
		soil(kid)
	}
	set, kids := k.Set[:cap(k.Set)], k.Kids[:cap(k.Kids)]
	for at := range set {
		set[at] = span(99, 99)
	}
	for at := range kids {
		kids[at] = api.Key{Kind: api.KeyText, N: 9, Name: "soil", Text: "soil"}
	}
}

// Tokens as a piece of a row, with others around them: none of them changes, nor is kept.
func TestTokensThatAreHandedInStay(t *testing.T) {
	r := rand.New(rand.NewSource(3))
	for range 3000 {
		kids, l, deep := drawnRow(r, r.Intn(api.MaxDeep+2))
		room := slices.Concat(toks("not ("), l, toks("all )"), l)
		was := slices.Clone(room)
		k, e := find.Parse(room[2 : 2+len(l)])
		if !slices.Equal(room, was) {
			t.Errorf("tokens became %s", told(room))
		}
		for at := range room {
			room[at] = api.Tok{Kind: api.TokString, Text: "soil"}
		}
		if deep <= api.MaxDeep && (e != api.OK || !alike(k, and(kids...))) {
			t.Errorf("a key became %s, once its tokens were overwritten", told(k))
		}
		expectNone(t, room[2:2+len(l)])
		copy(room, was)
		find.Parse(room[1:]) // what is refused stays, too
		find.Parse(room[:2])
		if !slices.Equal(room, was) {
			t.Errorf("tokens became %s", told(room))
		}
	}
}

// grown is a key with spare room behind each of its lists, in which something stands.
func grown(k api.Key) api.Key {
	k.Set = append(slices.Clone(k.Set), span(1, api.Star), span(5, 5))[:len(k.Set)]
	kids := []api.Key{}
	for _, kid := range k.Kids {
		kids = append(kids, grown(kid))
	}
	k.Kids = append(kids, everything, text("room"))[:len(kids)]
	return k
}

// whole is all that a key has, the room behind its lists' ends too.
func whole(k api.Key) string {
	b := strconv.Itoa(k.Kind) + " " + strconv.Itoa(k.N) + " " + strconv.Quote(k.Name) + strconv.Quote(k.Text) + strconv.Itoa(len(k.Set)) + " " + strconv.Itoa(len(k.Kids))
	for _, r := range k.Set[:cap(k.Set)] {
		b += " " + strconv.Itoa(r.From) + ":" + strconv.Itoa(r.To)
	}
	for _, kid := range k.Kids[:cap(k.Kids)] {
		b += " (" + whole(kid) + ")"
	}
	return b
}

func TestKeysThatAreHandedInStay(t *testing.T) {
	r := rand.New(rand.NewSource(4))
	for range 5000 {
		drawn, _, _ := drawnKey(r, 3)
		k := grown(drawn)
		m := drawnMessage(r)
		row := append([]byte("ab"), m.Body...)
		row = append(row, "soil"...)
		rowWas, keyWas := slices.Clone(row), whole(k)
		m.Body = row[2 : 2+len(m.Body)]
		want := plainMatch(drawn, m, 3, 4, 5)
		expectMatch(t, k, m, 3, 4, 5, want)
		expectSame(t, k, drawn, true)
		if whole(k) != keyWas || !slices.Equal(row, rowWas) {
			t.Errorf("a key and a body became %s, %q", told(whole(k)), row)
		}
		soil(k)
		for at := range row {
			row[at] ^= 0xff
		}
		expectMatch(t, drawn, api.Message{UID: m.UID, Flags: m.Flags, Body: rowWas[2 : 2+len(m.Body)]}, 3, 4, 5, want)
	}
}

// lists is how many lists there are in a key, each with room marked by its own number; so two that share any are told.
func lists(k api.Key, next int) int {
	for at := range k.Kids {
		next = lists(k.Kids[at], next)
	}
	set, kids := k.Set[:cap(k.Set)], k.Kids[len(k.Kids):cap(k.Kids)]
	for at := range set {
		set[at] = span(next, next)
	}
	for at := range kids {
		kids[at] = flag(next)
	}
	return next + 1
}

// stay tells whether all lists have their own numbers yet, of as many as lists told.
func stay(k api.Key, next int) (int, bool) {
	good := true
	for _, kid := range k.Kids {
		var is bool
		next, is = stay(kid, next)
		good = good && is
	}
	for _, r := range k.Set[:cap(k.Set)] {
		good = good && r == span(next, next)
	}
	for _, kid := range k.Kids[len(k.Kids):cap(k.Kids)] {
		good = good && find.Same(kid, flag(next))
	}
	return next + 1, good
}

// What is answered is new each time, its spare room too; no two of its lists share any; and it stays, whatever is called later.
func TestAnswersAreNew(t *testing.T) {
	r := rand.New(rand.NewSource(5))
	var rows [][]api.Tok
	var wants, answers []api.Key
	for range 3000 {
		kids, l, deep := drawnRow(r, 3)
		if deep > api.MaxDeep {
			continue
		}
		first, _ := find.Parse(l)
		second, _ := find.Parse(l)
		lists(first, 1)
		if _, good := stay(first, 1); !good {
			t.Errorf("lists of %s share some", told(l))
		}
		soil(first)
		third, _ := find.Parse(l)
		if want := and(kids...); !alike(second, want) || !alike(third, want) {
			t.Errorf("an answer became %s", told(second))
		}
		rows, wants, answers = append(rows, l), append(wants, and(kids...)), append(answers, third)
	}
	for at, l := range rows {
		if !alike(answers[at], wants[at]) {
			t.Errorf("an answer of %s became %s", told(l), told(answers[at]))
		}
		expectKey(t, l, wants[at].Kids...)
	}
}

// What no argument is told, or a nil one.
func TestNothing(t *testing.T) {
	expectNone(t, nil)
	expectNone(t, []api.Tok{})
	expectNone(t, []api.Tok{{}})
	expectNone(t, make([]api.Tok, 9))
	expectNone(t, toks("all")[:0])
	if find.Match(api.Key{}, api.Message{}, 0, 0, 0) {
		t.Errorf("Match of nothing")
	}
	for kind, want := range map[int]bool{api.KeyAll: true, api.KeyFlag: true, api.KeyLarger: false, api.KeySmaller: false, api.KeyText: true, api.KeyField: false, api.KeySet: false, api.KeyUID: false, api.KeyNot: false, api.KeyOr: false, api.KeyAnd: true} {
		expectMatch(t, api.Key{Kind: kind}, api.Message{}, 0, 0, 0, want)
		expectMatch(t, api.Key{Kind: kind, Set: []api.Range{}, Kids: []api.Key{}}, api.Message{Body: []byte{}}, 0, 0, 0, want)
	}
	expectSame(t, api.Key{}, api.Key{}, true)
}

func TestCallsSideBySide(t *testing.T) {
	k, e := find.Parse(toks("not ( or subject a uid 5:* ) 1"))
	if e != api.OK {
		t.Fatal(e)
	}
	m := api.Message{UID: 3, Body: []byte("Subject: b\n\na")}
	done := make(chan bool)
	for n := range 8 {
		go func() {
			defer func() { done <- true }()
			r := rand.New(rand.NewSource(int64(n)))
			for range 500 {
				kids, l, deep := drawnRow(r, 2)
				if deep <= api.MaxDeep {
					expectKey(t, l, kids...)
				}
				place := r.Intn(3)
				expectMatch(t, k, m, place, 9, 9, place == 1)
				expectSame(t, k, k, true)
			}
		}()
	}
	for range 8 {
		<-done
	}
}
