package lex

import (
	"strings"

	"minstrel/api"
	"minstrel/dec"
)

// signs has the longer ones first, since the longest is taken.
var signs = [...]string{
	"..", "==", "~=", "<=", ">=",
	"+", "-", "*", "/", "%", "=", "<", ">", "(", ")", "{", "}", "[", "]", ",", ";", ".", "#",
}

// reader reads a script's words one behind the other.
type reader struct {
	s  string
	at int
}

// byteAt is the byte at a place; behind the script it is a line feed, since with the script its last line ends.
func (r *reader) byteAt(i int) byte {
	if i < len(r.s) {
		return r.s[i]
	}
	return '\n'
}

// passOver goes on to where the next word stands.
func (r *reader) passOver() {
	for r.at < len(r.s) {
		switch {
		case isBlank(r.s[r.at]):
			r.at++
		case strings.HasPrefix(r.s[r.at:], "--"):
			r.passLine()
		default:
			return
		}
	}
}

// passLine goes on to the end of the line.
func (r *reader) passLine() {
	for r.byteAt(r.at) != '\n' {
		r.at++
	}
}

// word reads the word that stands here.
func (r *reader) word() api.Token {
	switch c := r.s[r.at]; {
	case isDigit(c):
		return r.number()
	case isOfName(c):
		return r.name()
	case c == '"':
		return r.text()
	}
	return r.sign()
}

// name reads a name, which may be a key word.
func (r *reader) name() api.Token {
	at := r.at
	for isOfName(r.byteAt(r.at)) {
		r.at++
	}
	t := api.Token{K: api.TokName, At: at, S: r.s[at:r.at]}
	if Key(t.S) {
		t.K = api.TokWord
	}
	return t
}

// number reads a numeral.
func (r *reader) number() api.Token {
	at := r.at
	r.digits()
	if r.byteAt(r.at) == '.' && isDigit(r.byteAt(r.at+1)) {
		r.at++
		r.digits()
	}
	if end := r.exponent(); isDigit(r.byteAt(end)) {
		r.at = end
		r.digits()
	}
	n, e := dec.Parse(r.s[at:r.at])
	if e != api.OK {
		panic(fault{at, e})
	}
	if isOfName(r.byteAt(r.at)) {
		panic(fault{r.at, api.ErrForm})
	}
	return api.Token{K: api.TokNum, At: at, N: n}
}

// digits goes on behind the digits that stand here.
func (r *reader) digits() {
	for isDigit(r.byteAt(r.at)) {
		r.at++
	}
}

// exponent is where the digits behind an e and its sign would stand; here, if there is no e.
func (r *reader) exponent() int {
	end := r.at
	if c := r.byteAt(end); c != 'e' && c != 'E' {
		return end
	}
	end++
	if c := r.byteAt(end); c == '+' || c == '-' {
		end++
	}
	return end
}

// text reads a text. One that has no end is at fault as a whole, ahead of an escape in it that is none: so that is told at the end.
func (r *reader) text() api.Token {
	at := r.at
	other := -1 // where the first escape stands that is none
	var says []byte
reading:
	for r.at++; ; r.at++ {
		c := r.byteAt(r.at)
		switch c {
		case '"':
			break reading
		case '\n':
			panic(fault{at, api.ErrForm})
		case '\\':
			if e, ok := escaped(r.byteAt(r.at + 1)); ok {
				says = append(says, e)
				r.at++
				continue reading
			}
			if other < 0 {
				other = r.at
			}
		}
		says = append(says, c)
	}
	r.at++
	if other >= 0 {
		panic(fault{other, api.ErrForm})
	}
	if len(says) > api.MaxText {
		panic(fault{at, api.ErrLong})
	}
	return api.Token{K: api.TokText, At: at, S: string(says)}
}

// escaped is what a byte behind a \ stands for, if it is an escape.
func escaped(c byte) (byte, bool) {
	switch c {
	case 'n':
		return '\n', true
	case 't':
		return '\t', true
	case '"', '\\':
		return c, true
	}
	return 0, false
}

// sign reads a sign.
func (r *reader) sign() api.Token {
	at := r.at
	for _, sign := range signs {
		if strings.HasPrefix(r.s[at:], sign) {
			r.at += len(sign)
			return api.Token{K: api.TokWord, At: at, S: sign}
		}
	}
	panic(fault{at, api.ErrForm})
}

func isBlank(c byte) bool {
	return c == ' ' || c == '\t' || c == '\n' || c == '\r'
}

func isDigit(c byte) bool {
	return '0' <= c && c <= '9'
}

// isOfName tells a letter, a digit or a _.
func isOfName(c byte) bool {
	return 'a' <= c && c <= 'z' || 'A' <= c && c <= 'Z' || c == '_' || isDigit(c)
}
