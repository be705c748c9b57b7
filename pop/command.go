package pop

import (
	"bytes"
	"strings"
)

const (
	blank      = " "
	mostArgs   = 2 // of any command whose words are counted
	mostDigits = 7 // of a number
)

// form is a command's first word, in small letters, and how many words stand behind it.
type form struct {
	name  string
	count int
}

// command is a line in words.
type command struct {
	form form
	args [][]byte // the words behind the first one, up to one too many; pieces of the line
	rest []byte   // all behind the blank behind the first word; a piece of the line
}

// parse is a line as a command.
func parse(line []byte) command {
	word, rest, _ := bytes.Cut(bytes.TrimLeft(line, blank), []byte(blank))
	args := words(rest)
	return command{form: form{small(word), len(args)}, args: args, rest: rest}
}

// words are those of b, up to one too many.
func words(b []byte) [][]byte {
	var l [][]byte
	for word := range bytes.FieldsFuncSeq(b, func(r rune) bool { return r == ' ' }) {
		l = append(l, word)
		if len(l) > mostArgs {
			break
		}
	}
	return l
}

// small is a word with A to Z as a to z. (Other letters have small ones among a to z, too: they stay.)
func small(word []byte) string {
	return strings.Map(func(r rune) rune {
		if 'A' <= r && r <= 'Z' {
			return r - 'A' + 'a'
		}
		return r
	}, string(word))
}

// number is a word as a number.
func number(word []byte) (int, bool) {
	if len(word) < 1 || len(word) > mostDigits {
		return 0, false
	}
	n := 0
	for _, c := range word {
		if c < '0' || c > '9' {
			return 0, false
		}
		n = 10*n + int(c-'0')
	}
	return n, true
}
