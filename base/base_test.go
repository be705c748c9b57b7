package base_test

import (
	"bytes"
	"encoding/base64"
	"math/rand"
	"strings"
	"testing"

	"letterbox/api"
	"letterbox/base"
)

const alphabet = "ABCDEFGHIJKLMNOPQRSTUVWXYZabcdefghijklmnopqrstuvwxyz0123456789+/"

// pairs are bytes and their letters, worked out by hand.
var pairs = []struct{ b, s string }{
	{"", ""},
	{"a", "YQ=="},
	{"f", "Zg=="},
	{"fo", "Zm8="},
	{"foo", "Zm9v"},
	{"foob", "Zm9vYg=="},
	{"fooba", "Zm9vYmE="},
	{"foobar", "Zm9vYmFy"},
	{"\x00", "AA=="},
	{"\x00\x00", "AAA="},
	{"\x00\x00\x00", "AAAA"},
	{"\x00\x00\x00\x00", "AAAAAA=="},
	{"\xff", "/w=="},
	{"\xff\xff", "//8="},
	{"\xff\xff\xff", "////"},
	{"\xff\xff\xff\xff", "/////w=="},
	{"\xff\xff\xff\xff\xff", "//////8="},
	{"\xfb\xf0", "+/A="},
	{"\xfb\xef\xbe", "++++"},
	{"\x01", "AQ=="},
	{"\x01\x02", "AQI="},
	{"\x01\x02\x03", "AQID"},
	{"\x80", "gA=="},
	{"\x00\x80", "AIA="},
	{"\x00\x00\x80", "AACA"},
	{"\x03\xff", "A/8="},
	{"\x00\x0f\xff", "AA//"},
	{"\x00\x00\x3f", "AAA/"},
	{"\r\n", "DQo="},
	{"=", "PQ=="},
	{"====", "PT09PQ=="},
	{" \t ", "IAkg"},
	{"Zm9v", "Wm05dg=="},
	{"\xc3\xa9\xe2\x82\xac", "w6nigqw="},
}

// lettersOf is Encode, worked out bit by bit.
func lettersOf(b []byte) string {
	var bits []int
	for _, x := range b {
		for at := 7; at >= 0; at-- {
			bits = append(bits, int(x)>>at&1)
		}
	}
	for len(bits)%6 != 0 {
		bits = append(bits, 0)
	}
	var out []byte
	for ; len(bits) > 0; bits = bits[6:] {
		six := 0
		for _, bit := range bits[:6] {
			six = 2*six + bit
		}
		out = append(out, alphabet[six])
	}
	for len(out)%4 != 0 {
		out = append(out, '=')
	}
	return string(out)
}

// bytesOf is what Decode is to answer of s: the library reads more than Encode writes, and so is asked for the way back.
func bytesOf(s string) ([]byte, bool) {
	b, err := base64.StdEncoding.DecodeString(s)
	if err != nil || base64.StdEncoding.EncodeToString(b) != s {
		return nil, false
	}
	return b, true
}

// expectBoth wants s of b, and b of s.
func expectBoth(t *testing.T, b []byte, s string) {
	t.Helper()
	if got := base.Encode(b); got != s {
		t.Errorf("Encode of % x: %q, want %q", b, got, s)
	}
	if got, e := base.Decode(s); e != api.OK || !bytes.Equal(got, b) {
		t.Errorf("Decode of %q: % x, error %d; want % x", s, got, e, b)
	}
}

// expectRefused wants an error, and no byte beside it.
func expectRefused(t *testing.T, what, s string) {
	t.Helper()
	if b, e := base.Decode(s); e != api.ErrForm || len(b) != 0 {
		t.Errorf("%s: Decode of %q: % x, error %d", what, s, b, e)
	}
}

// expectAsTold wants of Decode what is worked out without the package; and tells whether s is letters of bytes.
func expectAsTold(t *testing.T, what, s string) bool {
	t.Helper()
	b, good := bytesOf(s)
	if !good {
		expectRefused(t, what, s)
		return false
	}
	if got, e := base.Decode(s); e != api.OK || !bytes.Equal(got, b) {
		t.Errorf("%s: Decode of %q: % x, error %d; want % x", what, s, got, e, b)
	}
	return true
}

// drawn is so many bytes.
func drawn(r *rand.Rand, many int) []byte {
	b := make([]byte, many)
	r.Read(b)
	return b
}

// at is s with x in the place of its byte at a place.
func at(s string, place int, x byte) string {
	return s[:place] + string([]byte{x}) + s[place+1:]
}

// P7.1: Encode

func TestPairs(t *testing.T) {
	for _, c := range pairs {
		expectBoth(t, []byte(c.b), c.s)
		if lettersOf([]byte(c.b)) != c.s {
			t.Errorf("the test's own letters of %q: %q, want %q", c.b, lettersOf([]byte(c.b)), c.s)
		}
	}
	expectBoth(t, nil, "")
	expectBoth(t, []byte{}, "")
	expectBoth(t, make([]byte, 0, 9), "")
}

func TestEachByteInEachPlace(t *testing.T) {
	for _, filling := range []byte{0, 0xff, 0x5a, 0xa5} {
		for many := 1; many <= 7; many++ {
			for place := range many {
				for x := range 256 {
					b := bytes.Repeat([]byte{filling}, many)
					b[place] = byte(x)
					expectBoth(t, b, lettersOf(b))
				}
			}
		}
	}
}

func TestEachTwoBytes(t *testing.T) {
	for n := range 1 << 16 {
		b := []byte{byte(n >> 8), byte(n)}
		expectBoth(t, b, base64.StdEncoding.EncodeToString(b))
	}
}

func TestEachLetter(t *testing.T) {
	if len(alphabet) != 64 {
		t.Fatal("the test's own letters are not 64")
	}
	for six := range 64 {
		letter := alphabet[six : six+1]
		expectBoth(t, []byte{byte(six << 2), 0, 0}, letter+"AAA")
		expectBoth(t, []byte{byte(six >> 4), byte(six << 4), 0}, "A"+letter+"AA")
		expectBoth(t, []byte{0, byte(six >> 2), byte(six << 6)}, "AA"+letter+"A")
		expectBoth(t, []byte{0, 0, byte(six)}, "AAA"+letter)
		expectBoth(t, []byte{byte(six << 2)}, letter+"A==")
		expectBoth(t, []byte{byte(six << 2), 0}, letter+"AA=")
		expectBoth(t, []byte{byte(six >> 4), byte(six << 4)}, "A"+letter+"A=")
	}
	var all []byte
	for six := 0; six < 64; six += 4 {
		bits := six<<18 | (six+1)<<12 | (six+2)<<6 | six + 3
		all = append(all, byte(bits>>16), byte(bits>>8), byte(bits))
	}
	expectBoth(t, all, alphabet)
}

func TestEachLength(t *testing.T) {
	r := rand.New(rand.NewSource(1))
	for many := range 600 {
		b := drawn(r, many)
		s := lettersOf(b)
		expectBoth(t, b, s)
		if len(s) != (many+2)/3*4 || strings.Count(s, "=") != (3-many%3)%3 {
			t.Errorf("%d bytes are %d letters: %q", many, len(s), s)
		}
	}
}

func TestVeryMany(t *testing.T) {
	r := rand.New(rand.NewSource(2))
	for _, many := range []int{1<<16 - 1, 1 << 16, 1<<16 + 1, 1<<22 + 1, 1<<22 + 2, 1<<22 + 3} {
		b := drawn(r, many)
		s := base64.StdEncoding.EncodeToString(b)
		if base.Encode(b) != s {
			t.Errorf("Encode of %d bytes is wrong", many)
		}
		if got, e := base.Decode(s); e != api.OK || !bytes.Equal(got, b) {
			t.Errorf("Decode of %d letters: %d bytes, error %d", len(s), len(got), e)
		}
		for _, place := range []int{0, len(s) / 2, len(s) - 5, len(s) - 4} {
			if got, e := base.Decode(at(s, place, '=')); e != api.ErrForm || len(got) != 0 {
				t.Errorf("Decode of %d letters, = at %d: %d bytes, error %d", len(s), place, len(got), e)
			}
		}
		for _, short := range []string{s[1:], s[:len(s)-1], s + "A", s + "\n"} {
			if got, e := base.Decode(short); e != api.ErrForm || len(got) != 0 {
				t.Errorf("Decode of %d letters: %d bytes, error %d", len(short), len(got), e)
			}
		}
	}
}

// P7.1: Decode

func TestTextsThatAreNoLetters(t *testing.T) {
	for _, s := range []string{
		"A", "AA", "AAA", "AAAAA", "AAAAAA", "AAAAAAA",
		"=", "==", "===", "====", "=====", "========",
		"A=", "A==", "A===", "AA=", "AAA==", "AAAA=", "AAAA==", "AAAA====",
		"=AAA", "A=AA", "AA=A", "==AA", "A==A", "=AA=", "=A==", "A=A=", "==A=", "===A",
		"AA===", "AA====", "AAA=====", "YQ", "YQ=", "YQ===", "YQ=====",
		"YQ==YQ==", "AAA=AAAA", "AA==AAAA", "A===AAAA", "====AAAA", "AAAAA===", "AAAA====",
		"AA==A===", "AAA=AAA=", "AAA=A===", "AAA=====", "AAAAAA=A", "AAAAA=A=", "AAAAA==A", "AAAA=A==",
		"YR==", "YS==", "YY==", "Yf==", "Y/==", "AB==", "AP==", "A+==", "//==",
		"AAB=", "AAC=", "AAD=", "AAF=", "AA/=", "///=", "Zm9=", "Zm+=",
		"Zm9vYQ==\n", "Zm9v\n", "\nZm9v", "Zm\n9v", "Zm9vY\nQ==", "Zm9v\r\nYmFy", "Zm9v\r\nYmFyZm", "\r\n\r\n", "\n\n\n\n", "Zg=\n=", "Zg\n==", "Zg==\n\n\n\n",
		" ", "    ", " YQ=", "YQ= ", "Y Q=", "YQ==    ", "    YQ==", "YQ= =   ",
		"Zm-v", "Zm_v", "-_-_", "Zm.v", "Zm,v", "Zm9v,===", "Zm:v", "Zm@v", "Zm[v", "Zm`v", "Zm{v", "Zm*v", "Zm<v", "Zm>v",
		"\x00\x00\x00\x00", "AAA\x00", "\x7fAAA", "\x80AAA", "\xffAAA", "\xff\xff\xff\xff",
		"\u00c1AA", "\u00c1AAA", "\u00e9\u00e9", "\u0100AA", "\U00010341", "\u2212\u00b3A", "\uff21A",
		"\xc1\x81\x81\x81", "\x41\xc1AA", "\xd9\xf1==", "Zg\xbd\xbd",
	} {
		expectRefused(t, "no letters", s)
		if _, good := bytesOf(s); good {
			t.Errorf("the test's own: %q is letters of bytes", s)
		}
	}
}

func TestLengthsThatAreNoMultipleOfFour(t *testing.T) {
	r := rand.New(rand.NewSource(3))
	for many := range 60 {
		s := base.Encode(drawn(r, many))
		for length := range len(s) {
			if length%4 != 0 {
				expectRefused(t, "cut short at its end", s[:length])
				expectRefused(t, "cut short at its beginning", s[len(s)-length:])
			}
		}
		for _, more := range []string{"A", "AA", "AAA", "=", "==", "===", "AA=", "A=="} {
			expectRefused(t, "something behind", s+more)
			expectRefused(t, "something ahead", more+s)
		}
	}
}

func TestSignsOfTheEndAtEachPlace(t *testing.T) {
	for _, s := range []string{"AAAA", "AAAAAAAA", "AAAAAAAAAAAA", "/wAA", "Zm9vYmFy", "AAA=", "AA==", "AAAAAAA=", "AAAAAA=="} {
		for set := range 1 << len(s) { // at all places, and at all places together
			text := []byte(s)
			for place := range text {
				if set>>place&1 == 1 {
					text[place] = '='
				}
			}
			expectAsTold(t, "= at some places", string(text))
		}
		for many := 1; many <= 9; many++ {
			expectRefused(t, "= behind", s+strings.Repeat("=", many))
			expectRefused(t, "= ahead", strings.Repeat("=", many)+s)
		}
	}
	for many := 1; many <= 40; many++ {
		expectRefused(t, "= alone", strings.Repeat("=", many))
	}
}

func TestLettersBehindTheEnd(t *testing.T) {
	for _, s := range []string{"AA==", "AAA=", "Zm9vYg==", "Zm9vYmE="} {
		for x := range 256 {
			letter := string([]byte{byte(x)})
			expectRefused(t, "one behind", s+letter)
			expectRefused(t, "four behind", s+strings.Repeat(letter, 4))
			expectRefused(t, "a group behind", s+letter+"A==")
			expectRefused(t, "one and the rest of a group behind", s+letter+"AA=")
		}
		expectRefused(t, "twice", s+s)
		expectRefused(t, "a whole group behind", s+"AAAA")
	}
}

// Of all groups with = at their end those alone are letters of bytes whose bits that are left are noughts.
func TestBitsThatAreLeft(t *testing.T) {
	ones, twos := 0, 0
	for a := range 64 {
		for b := range 64 {
			two := string([]byte{alphabet[a], alphabet[b]})
			for _, ahead := range []string{"", "Zm9v"} {
				if good := expectAsTold(t, "two letters", ahead+two+"=="); good != (b&15 == 0) {
					t.Errorf("the test's own: %q", two)
				}
			}
			if _, e := base.Decode(two + "=="); e == api.OK {
				ones++
			}
			for c := range 64 {
				three := two + alphabet[c:c+1] + "="
				got, e := base.Decode(three)
				want := c&3 == 0
				if (e == api.OK) != want || !want && (e != api.ErrForm || len(got) != 0) {
					t.Errorf("Decode of %q: % x, error %d", three, got, e)
				}
				if e == api.OK {
					twos++
				}
			}
		}
	}
	if ones != 1<<8 || twos != 1<<16 {
		t.Errorf("%d texts of one byte, and %d of two", ones, twos)
	}
}

func TestEachByteAtEachPlace(t *testing.T) {
	for _, s := range []string{"AAAA", "AAA=", "AA==", "////", "//8=", "/w==", "Zm9vYmFy", "Zm9vYmE=", "Zm9vYg==", "Zm9vYmFyZm8=", "PT09PQ=="} {
		for place := range s {
			for x := range 256 {
				changed := at(s, place, byte(x))
				good := expectAsTold(t, "another byte", changed)
				if good && changed != s && strings.IndexByte(alphabet, byte(x)) < 0 && x != '=' {
					t.Errorf("the test's own: %q", changed)
				}
				expectAsTold(t, "a byte more", s[:place]+string([]byte{byte(x)})+s[place:])
				expectAsTold(t, "four bytes more", s[:place]+strings.Repeat(string([]byte{byte(x)}), 4)+s[place:])
			}
		}
	}
}

// TestAllShortTexts goes through all texts of up to five bytes of a few kinds.
func TestAllShortTexts(t *testing.T) {
	kinds := []byte("AQg/+=-\n \x80")
	texts := []string{""}
	for range 5 {
		var longer []string
		for _, s := range texts {
			expectAsTold(t, "a short text", s)
			for _, x := range kinds {
				longer = append(longer, s+string([]byte{x}))
			}
		}
		texts = longer
	}
	for _, s := range texts {
		expectRefused(t, "five bytes", s)
	}
}

func TestChangedTexts(t *testing.T) {
	r := rand.New(rand.NewSource(4))
	kinds := alphabet + "====\r\n -_\x00\x7f\x80\xff"
	for range 40000 {
		s := []byte(base.Encode(drawn(r, r.Intn(20))))
		for range r.Intn(4) {
			if len(s) > 0 {
				s[r.Intn(len(s))] = kinds[r.Intn(len(kinds))]
			}
		}
		if len(s) > 0 && r.Intn(3) == 0 {
			from := r.Intn(len(s))
			s = append(s[:from], s[min(len(s), from+r.Intn(5)):]...)
		}
		expectAsTold(t, "a changed text", string(s))
	}
}

func FuzzDecode(f *testing.F) {
	for _, c := range pairs {
		f.Add(c.s)
		f.Add(c.b)
	}
	f.Fuzz(func(t *testing.T, s string) {
		expectAsTold(t, "a text", s)
		expectBoth(t, []byte(s), base64.StdEncoding.EncodeToString([]byte(s)))
	})
}

// P7.2

func TestDecodeOfEncode(t *testing.T) {
	r := rand.New(rand.NewSource(5))
	for range 20000 {
		b := drawn(r, r.Intn(40))
		got, e := base.Decode(base.Encode(b))
		if e != api.OK || !bytes.Equal(got, b) {
			t.Errorf("Decode of Encode of % x: % x, error %d", b, got, e)
		}
	}
}

// No two texts are read as the same bytes: what is read is written as it was.
func TestEncodeOfDecode(t *testing.T) {
	kinds := []byte("ABQgw/+8=")
	read := map[string]string{}
	for n := range 9 * 9 * 9 * 9 {
		s := string([]byte{kinds[n%9], kinds[n/9%9], kinds[n/81%9], kinds[n/729]})
		for _, text := range []string{s, "AAAA" + s, s + "QQ=="} {
			b, e := base.Decode(text)
			if e != api.OK {
				continue
			}
			if other, has := read[string(b)]; has && other != text {
				t.Errorf("%q and %q are read as % x", text, other, b)
			}
			read[string(b)] = text
			if again := base.Encode(b); again != text {
				t.Errorf("Encode of Decode of %q: %q", text, again)
			}
		}
	}
}

// soil overwrites a list and the spare room behind its end.
func soil(p []byte) {
	p = p[:cap(p)]
	for i := range p {
		p[i] ^= 0xff
	}
}

func TestEncodeLeavesWhatIsHandedIn(t *testing.T) {
	for many := range 20 {
		all := bytes.Repeat([]byte("letters"), 5)
		was := bytes.Clone(all)
		b := all[3 : 3+many]
		want := lettersOf(b)
		first := base.Encode(b)
		if !bytes.Equal(all, was) {
			t.Errorf("Encode of %d bytes changed what was handed in: %q", many, all)
		}
		soil(all)
		if first != want {
			t.Errorf("what Encode answered of %d bytes has changed: %q, want %q", many, first, want)
		}
		if second := base.Encode(b); second != lettersOf(b) || first != want {
			t.Errorf("Encode of %d changed bytes: %q; what was answered first: %q", many, second, first)
		}
	}
}

func TestDecodeAnswersNewMemory(t *testing.T) {
	for many := range 20 {
		b := bytes.Repeat([]byte("letters"), 5)[:many]
		s := lettersOf(b)
		was := strings.Clone(s)
		first, _ := base.Decode(s)
		second, _ := base.Decode(s)
		soil(first)
		_ = append(second, "xyzxyzxyz"...)
		third, e := base.Decode(s)
		if s != was || !bytes.Equal(second, b) || e != api.OK || !bytes.Equal(third, b) {
			t.Errorf("what Decode answers of %q shares: % x and % x, want % x", was, second, third, b)
		}
	}
}

// A refused text leaves nothing behind that a later call could tell.
func TestCallsBehindAnError(t *testing.T) {
	for _, bad := range []string{"Zm9vYmFyZm9v====", "Zm9v\n", "Zm9vYR==", "Z"} {
		for _, c := range pairs {
			expectRefused(t, "no letters", bad)
			expectBoth(t, []byte(c.b), c.s)
		}
	}
}

func TestCallsSideBySide(t *testing.T) {
	done := make(chan bool)
	for k := range 8 {
		go func() {
			defer func() { done <- true }()
			r := rand.New(rand.NewSource(int64(k)))
			for range 500 {
				b := drawn(r, r.Intn(60))
				expectBoth(t, b, lettersOf(b))
				expectRefused(t, "side by side", lettersOf(b)+"=")
			}
		}()
	}
	for range 8 {
		<-done
	}
}
