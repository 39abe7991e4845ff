package lex_test

import (
	"fmt"
	"math"
	"math/rand"
	"reflect"
	"regexp"
	"slices"
	"strconv"
	"strings"
	"testing"

	"minstrel/api"
	"minstrel/lex"
)

var keyWords = strings.Fields("and break do else elseif end false for function if local nil not or return then true while")

var allSigns = strings.Fields(".. == ~= <= >= + - * / % = < > ( ) { } [ ] , ; . #")

var (
	passedOver = regexp.MustCompile(`^(?:[ \t\n\r]|--[^\n]*)+`)
	nameForm   = regexp.MustCompile(`^[A-Za-z_][A-Za-z0-9_]*`)
	numeral    = regexp.MustCompile(`^[0-9]+(?:\.[0-9]+)?(?:[eE][+-]?[0-9]+)?`)
	textForm   = regexp.MustCompile(`^"(?:[^"\\\n]|\\[^\n])*"`)
	otherSlash = regexp.MustCompile(`^(?:[^\\]|\\[nt"\\])*`)
	signForm   = regexp.MustCompile(`^(?:\.\.|==|~=|<=|>=|[-+*/%=<>(){}\[\],;.#])`)
	ofName     = regexp.MustCompile(`^[A-Za-z0-9_]`)
	saidBy     = strings.NewReplacer(`\n`, "\n", `\t`, "\t", `\"`, `"`, `\\`, `\`)
)

// wordByWords is the word at the beginning of s, how many bytes it has, and by how many its fault is farther on.
func wordByWords(s string) (api.Token, int, int, api.Errno) {
	none := api.Token{}
	if w := nameForm.FindString(s); w != "" {
		if slices.Contains(keyWords, w) {
			return api.Token{K: api.TokWord, S: w}, len(w), 0, api.OK
		}
		return api.Token{K: api.TokName, S: w}, len(w), 0, api.OK
	}
	if w := numeral.FindString(s); w != "" {
		if len(w) > 400 {
			return none, 0, 0, api.ErrLong
		}
		if ofName.MatchString(s[len(w):]) {
			return none, 0, len(w), api.ErrForm
		}
		f, _ := strconv.ParseFloat(w, 64)
		return api.Token{K: api.TokNum, N: api.Num(math.Float64bits(f))}, len(w), 0, api.OK
	}
	if strings.HasPrefix(s, `"`) {
		w := textForm.FindString(s)
		if w == "" {
			return none, 0, 0, api.ErrForm
		}
		if sound := otherSlash.FindString(w); sound != w {
			return none, 0, len(sound), api.ErrForm
		}
		says := saidBy.Replace(w[1 : len(w)-1])
		if len(says) > 16384 {
			return none, 0, 0, api.ErrLong
		}
		return api.Token{K: api.TokText, S: says}, len(w), 0, api.OK
	}
	if w := signForm.FindString(s); w != "" {
		return api.Token{K: api.TokWord, S: w}, len(w), 0, api.OK
	}
	return none, 0, 0, api.ErrForm
}

// wordsByWords is Words by the words of P10.1, with patterns instead of a reader.
func wordsByWords(s string) ([]api.Token, int, api.Errno) {
	if len(s) > 65536 {
		return nil, 0, api.ErrLong
	}
	var l []api.Token
	at := 0
	for {
		at += len(passedOver.FindString(s[at:]))
		if at == len(s) {
			return append(l, api.Token{K: api.TokEnd, At: at}), 0, api.OK
		}
		w, size, on, e := wordByWords(s[at:])
		if e != api.OK {
			return nil, at + on, e
		}
		if len(l) == 16384 {
			return nil, at, api.ErrLong
		}
		w.At = at
		l = append(l, w)
		at += size
	}
}

// told is an answer of Words as a text: kind, place and what it says of each token, then the place and the error.
func told(l []api.Token, at int, e api.Errno) string {
	var b strings.Builder
	for _, w := range l {
		fmt.Fprintf(&b, "%d@%d:%q/%x ", w.K, w.At, w.S, uint64(w.N))
	}
	fmt.Fprintf(&b, "%d %d", at, e)
	return b.String()
}

// mustAsWords: Words answers what the model answers.
func mustAsWords(t *testing.T, s string) {
	t.Helper()
	got, want := told(lex.Words(s)), told(wordsByWords(s))
	if got != want {
		t.Fatalf("Words(%.200q): %.400s, not %.400s", s, got, want)
	}
}

// mustFail: Words answers this fault, and no tokens beside it.
func mustFail(t *testing.T, s string, at int, e api.Errno) {
	t.Helper()
	l, gotAt, gotErr := lex.Words(s)
	if len(l) != 0 || gotAt != at || gotErr != e {
		t.Errorf("Words(%.60q): %d tokens, %d, %d, not none, %d, %d", s, len(l), gotAt, gotErr, at, e)
	}
	mustAsWords(t, s)
}

// mustRead is what Words answers of a script that can be read.
func mustRead(t *testing.T, s string) []api.Token {
	t.Helper()
	l, at, e := lex.Words(s)
	if at != 0 || e != api.OK {
		t.Fatalf("Words(%.60q): %d, %d", s, at, e)
	}
	if last := l[len(l)-1]; last != (api.Token{K: api.TokEnd, At: len(s)}) {
		t.Fatalf("Words(%.60q) ends with %v", s, last)
	}
	mustAsWords(t, s)
	return l
}

// mustSay: the script's tokens (without the end) say these words, numbers as their shortest digits, at rising places.
func mustSay(t *testing.T, s string, words ...string) {
	t.Helper()
	l := mustRead(t, s)
	var got []string
	for _, w := range l[:len(l)-1] {
		if w.K == api.TokNum {
			got = append(got, strconv.FormatFloat(math.Float64frombits(uint64(w.N)), 'g', -1, 64))
			continue
		}
		got = append(got, w.S)
	}
	if !slices.Equal(got, words) {
		t.Errorf("Words(%.60q) says %.200q, not %.200q", s, got, words)
	}
}

// P10.1: the key words, and what is hardly none of them.
func TestKey(t *testing.T) {
	for _, w := range keyWords {
		if !lex.Key(w) {
			t.Errorf("Key(%q) is false", w)
		}
		if l := mustRead(t, w); l[0] != (api.Token{K: api.TokWord, S: w}) || len(l) != 2 {
			t.Errorf("Words(%q): %v", w, l)
		}
		for _, near := range []string{w[1:], w[:len(w)-1], w + w, w + "_", "_" + w, w + "1", strings.ToUpper(w), strings.ToUpper(w[:1]) + w[1:], w + " ", " " + w, w + "\x00"} {
			if lex.Key(near) != slices.Contains(keyWords, near) {
				t.Errorf("Key(%q) is %v", near, lex.Key(near))
			}
			mustAsWords(t, near)
		}
	}
	for _, other := range append([]string{"", " ", "and or", "repeat", "until", "goto", "in", "1", "nil\n"}, allSigns...) {
		if lex.Key(other) {
			t.Errorf("Key(%q) is true", other)
		}
	}
}

// P10.1: names are letters, digits and _, no digit first.
func TestNames(t *testing.T) {
	for _, s := range []string{"a", "z", "A", "Z", "_", "__", "a1", "_0", "aZ09_", "e5", "E", "end_", "x" + strings.Repeat("y", 65535)} {
		l := mustRead(t, s)
		if len(l) != 2 || l[0] != (api.Token{K: api.TokName, S: s}) {
			t.Errorf("Words(%.40q): %.200v", s, l)
		}
	}
	mustSay(t, "a b\tc\nd\re", "a", "b", "c", "d", "e")
	mustFail(t, "aé", 1, api.ErrForm)
	mustFail(t, "a@", 1, api.ErrForm)
	mustFail(t, "a`", 1, api.ErrForm)
}

// P10.1: every sign alone, and every two and three right behind one another: the longest is taken.
func TestSigns(t *testing.T) {
	for _, s := range allSigns {
		l := mustRead(t, s)
		if len(l) != 2 || l[0] != (api.Token{K: api.TokWord, S: s}) {
			t.Errorf("Words(%q): %v", s, l)
		}
	}
	for _, a := range allSigns {
		for _, b := range allSigns {
			mustAsWords(t, a+b)
			mustAsWords(t, a+"~"+b)
			for _, c := range allSigns {
				mustAsWords(t, a+b+c)
			}
		}
	}
	mustSay(t, "===", "==", "=")
	mustSay(t, "~==", "~=", "=")
	mustSay(t, "<==", "<=", "=")
	mustSay(t, ">>=", ">", ">=")
	mustSay(t, "<>", "<", ">")
	mustSay(t, "=<", "=", "<")
	mustSay(t, "...", "..", ".")
	mustSay(t, "....", "..", "..")
	mustSay(t, "- -", "-", "-")
	mustSay(t, "(){}[]", "(", ")", "{", "}", "[", "]")
	mustSay(t, "a=-#b", "a", "=", "-", "#", "b")
	mustFail(t, "~", 0, api.ErrForm)
	mustFail(t, "=~", 1, api.ErrForm)
	mustFail(t, "~ =", 0, api.ErrForm)
	mustFail(t, "~~=", 0, api.ErrForm)
}

// P10.1: numerals with and without a dot and an exponent; a dot and an e with no digit behind are none of theirs.
func TestNumbers(t *testing.T) {
	mustSay(t, "0", "0")
	mustSay(t, "007", "7")
	mustSay(t, "1.5", "1.5")
	mustSay(t, "1e2", "100")
	mustSay(t, "1E2", "100")
	mustSay(t, "1e+2", "100")
	mustSay(t, "15e-1", "1.5")
	mustSay(t, "1.25e2", "125")
	mustSay(t, "1e400", "+Inf")
	mustSay(t, "1e-400", "0")
	mustSay(t, "0.1", "0.1")
	mustSay(t, "1.", "1", ".")
	mustSay(t, ".5", ".", "5")
	mustSay(t, "3..2", "3", "..", "2")
	mustSay(t, "1...2", "1", "..", ".", "2")
	mustSay(t, "1.2.3", "1.2", ".", "3")
	mustSay(t, "1.2..3", "1.2", "..", "3")
	mustSay(t, "1.e5", "1", ".", "e5")
	mustSay(t, "1e2.5", "100", ".", "5")
	mustSay(t, "1e2-3", "100", "-", "3")
	mustSay(t, "1-2", "1", "-", "2")
	mustSay(t, "-1", "-", "1")
	mustSay(t, "1 e2", "1", "e2")
	l := mustRead(t, " 1.5e2")
	if l[0] != (api.Token{K: api.TokNum, At: 1, N: 0x4062c00000000000}) {
		t.Errorf("the number 150: %v", l[0])
	}
}

// P10.1: a letter, digit or _ right behind a numeral is a fault there.
func TestBehindNumbers(t *testing.T) {
	for c := range 256 {
		for _, n := range []string{"1", "1.5", "1e5", "1.5e+5"} {
			mustAsWords(t, n+string([]byte{byte(c)}))
			mustAsWords(t, n+string([]byte{byte(c), '1'}))
		}
	}
	mustFail(t, "1a", 1, api.ErrForm)
	mustFail(t, "1_", 1, api.ErrForm)
	mustFail(t, " 12Z", 3, api.ErrForm)
	mustFail(t, "1e", 1, api.ErrForm)
	mustFail(t, "1E", 1, api.ErrForm)
	mustFail(t, "1e+", 1, api.ErrForm)
	mustFail(t, "1e-x", 1, api.ErrForm)
	mustFail(t, "1e+-1", 1, api.ErrForm)
	mustFail(t, "1.5e", 3, api.ErrForm)
	mustFail(t, "1e5e5", 3, api.ErrForm)
	mustFail(t, "1e5_", 3, api.ErrForm)
	mustFail(t, "0x10", 1, api.ErrForm)
	mustFail(t, "1and", 1, api.ErrForm)
}

// P10.1: a numeral has at most 400 bytes, its dot and exponent among them.
func TestLongNumbers(t *testing.T) {
	nines := strings.Repeat("9", 400)
	mustRead(t, nines)
	mustRead(t, " "+nines+" ")
	mustRead(t, nines[:396]+".5e1")
	mustRead(t, nines[:396]+"e-20")
	mustSay(t, strings.Repeat("0", 399)+"1", "1")
	mustFail(t, nines+"9", 0, api.ErrLong)
	mustFail(t, "  "+nines+"9", 2, api.ErrLong)
	mustFail(t, nines[:396]+".25e1", 0, api.ErrLong)
	mustFail(t, nines[:396]+"e-200", 0, api.ErrLong)
	mustFail(t, nines+"9a", 0, api.ErrLong)
	mustFail(t, nines+"a", 400, api.ErrForm)
	mustFail(t, nines+"e", 400, api.ErrForm)
	mustSay(t, "1"+strings.Repeat("0", 399)+".x", "+Inf", ".", "x")
}

// P10.1: what texts say.
func TestTexts(t *testing.T) {
	mustSay(t, `""`, "")
	mustSay(t, `"" ""`, "", "")
	mustSay(t, `"a""b"`, "a", "b")
	mustSay(t, `"\n\t\"\\"`, "\n\t\"\\")
	mustSay(t, `"a\\"`, `a\`)
	mustSay(t, `"\\n"`, `\n`)
	mustSay(t, `"\\\""`, `\"`)
	mustSay(t, `"-- no comment"`, "-- no comment")
	mustSay(t, `"'"`, "'")
	mustSay(t, "\"a\tb\rc\x00\xff\"", "a\tb\rc\x00\xff")
	mustSay(t, `1"a"`, "1", "a")
	mustSay(t, `x"and"`, "x", "and")
	l := mustRead(t, ` "\n" x`)
	if l[0] != (api.Token{K: api.TokText, At: 1, S: "\n"}) || l[1].At != 6 {
		t.Errorf("a text and a name: %v", l)
	}
}

// P10.1: every other escape is a fault at its \.
func TestOtherEscapes(t *testing.T) {
	for c := range 256 {
		s := `x "a\` + string([]byte{byte(c)}) + `b" `
		mustAsWords(t, s)
		_, at, e := lex.Words(s)
		switch c {
		case 'n', 't', '"', '\\':
			if e != api.OK {
				t.Errorf("Words(%q): %d, %d", s, at, e)
			}
		case '\n':
			if at != 2 || e != api.ErrForm {
				t.Errorf("Words(%q): %d, %d", s, at, e)
			}
		default:
			if at != 4 || e != api.ErrForm {
				t.Errorf("Words(%q): %d, %d", s, at, e)
			}
		}
	}
	mustFail(t, `"\q\z"`, 1, api.ErrForm)
	mustFail(t, `"\\\q"`, 3, api.ErrForm)
	mustFail(t, `"\N"`, 1, api.ErrForm)
}

// P10.1: a text that the line or the script ends ahead of its own end is a fault at its place, ahead of what may be wrong in it.
func TestTextsWithoutEnd(t *testing.T) {
	for _, s := range []string{`"`, `"a`, `"\"`, `"\\\"`, `"a\`, "\"\n\"", "\"a\nb\"", "\"a\\\n\"", `"\q`, "\"\\q\n\"", `"\q\"`, `"` + strings.Repeat("a", 16385)} {
		mustFail(t, s, 0, api.ErrForm)
		mustFail(t, "a "+s, 2, api.ErrForm)
	}
	mustFail(t, `"a"b"`, 4, api.ErrForm)
	mustFail(t, `""\""`, 2, api.ErrForm)
}

// P10.1: a text says at most 16384 bytes, however many it is written with.
func TestLongTexts(t *testing.T) {
	full := strings.Repeat("a", 16384)
	mustSay(t, `"`+full+`"`, full)
	mustSay(t, ` "`+strings.Repeat(`\n`, 16384)+`"`, strings.Repeat("\n", 16384))
	mustFail(t, `"`+full+`a"`, 0, api.ErrLong)
	mustFail(t, `x="`+full+`\""`, 2, api.ErrLong)
	mustFail(t, ` "`+strings.Repeat(`\n`, 16385)+`"`, 1, api.ErrLong)
	mustFail(t, `"`+full+`a\q"`, 16386, api.ErrForm)
	mustFail(t, `"`+full+`a" $`, 0, api.ErrLong)
}

// P10.1: blanks, and comments to the end of their line or of the script, are passed over.
func TestPassedOver(t *testing.T) {
	for _, s := range []string{"", " ", "\t\r\n ", "--", "---", "--\n", "-- a $ \" \x00\xff", "--\n--", " -- a\n\t-- b\r\n"} {
		mustSay(t, s)
	}
	mustSay(t, "a -- b\nc", "a", "c")
	mustSay(t, "a--b\nc--", "a", "c")
	mustSay(t, "a---b\n-c", "a", "-", "c")
	mustSay(t, "a- --b\n-c", "a", "-", "-", "c")
	mustSay(t, "1--2\n3", "1", "3")
	mustSay(t, "--a\r b")
	mustSay(t, "--[[ a\nb", "b")
	mustSay(t, "a-\n-b", "a", "-", "-", "b")
	mustFail(t, "-- a\n$", 5, api.ErrForm)
}

// P10.1: every byte alone, and among others.
func TestEveryByte(t *testing.T) {
	for c := range 256 {
		b := string([]byte{byte(c)})
		mustAsWords(t, b)
		mustAsWords(t, "a "+b+" a")
		mustAsWords(t, "a"+b+"a")
		l, at, e := lex.Words(b)
		want := 2
		switch {
		case strings.Contains(" \t\n\r", b):
			want = 1
		case !strings.Contains("+-*/%=<>(){}[],;.#_", b) && !(len(nameForm.FindString(b)) == 1 || c >= '0' && c <= '9'):
			want = 0
		}
		if len(l) != want || at != 0 || (e == api.ErrForm) != (want == 0) {
			t.Errorf("Words(%q): %v, %d, %d", b, l, at, e)
		}
	}
}

// P10.1: a script has at most 65536 bytes.
func TestLongScripts(t *testing.T) {
	mustSay(t, strings.Repeat(" ", 65536))
	mustSay(t, "x"+strings.Repeat("\n", 65535), "x")
	mustSay(t, strings.Repeat("-", 65536))
	mustFail(t, strings.Repeat(" ", 65537), 0, api.ErrLong)
	mustFail(t, "$"+strings.Repeat(" ", 65536), 0, api.ErrLong)
	mustFail(t, strings.Repeat("-", 1<<20), 0, api.ErrLong)
	mustFail(t, strings.Repeat(" ", 65535)+"$", 65535, api.ErrForm)
}

// P10.1: a script has at most 16384 tokens, the end not counted.
func TestManyTokens(t *testing.T) {
	for _, w := range []string{"a ", "1 ", `""`, "; ", "if\n"} {
		full := strings.Repeat(w, 16384)
		if l := mustRead(t, full); len(l) != 16385 {
			t.Errorf("%d tokens of %q", len(l), w)
		}
		if l := mustRead(t, full+" -- a"); len(l) != 16385 {
			t.Errorf("%d tokens of %q and a comment", len(l), w)
		}
		for _, more := range []string{"a", "1", `"x"`, "~=", "end", "a $", "( $"} {
			mustFail(t, full+more, len(full), api.ErrLong)
			mustFail(t, full+" "+more, len(full)+1, api.ErrLong)
		}
		mustFail(t, full+"$", len(full), api.ErrForm)
		mustFail(t, full+` "a`, len(full)+1, api.ErrForm)
		mustFail(t, full+" 1a", len(full)+2, api.ErrForm)
		mustFail(t, full+` "\q"`, len(full)+2, api.ErrForm)
		mustFail(t, "$"+full+"a", 0, api.ErrForm)
	}
}

// P10.1: of several faults the first one is told, and no tokens beside it.
func TestFirstFault(t *testing.T) {
	mustFail(t, "a $ 1a", 2, api.ErrForm)
	mustFail(t, "a 1a $", 3, api.ErrForm)
	mustFail(t, `a "b`+"\n$", 2, api.ErrForm)
	mustFail(t, strings.Repeat("1", 401)+" $", 0, api.ErrLong)
	mustFail(t, "$ "+strings.Repeat("1", 401), 0, api.ErrForm)
	mustFail(t, `"\q" `+strings.Repeat("1", 401), 1, api.ErrForm)
}

// piece is something that a script may be made of.
func piece(r *rand.Rand) string {
	switch r.Intn(12) {
	case 0:
		return keyWords[r.Intn(len(keyWords))]
	case 1, 2:
		return allSigns[r.Intn(len(allSigns))]
	case 3:
		return []string{"a", "b1", "_", "e", "E", "en", "ends"}[r.Intn(7)]
	case 4, 5:
		return []string{"1", "20", "1.5", "2e3", "1e", ".", "e+", "-", "5E-2"}[r.Intn(9)]
	case 6:
		return []string{`"a"`, `""`, `"\n"`, `"\t\""`, `"`, `\`, `"\q"`, `"--"`}[r.Intn(8)]
	case 7:
		return "-- x\n"
	case 8:
		return []string{"$", "~", "\x00", "é"}[r.Intn(4)]
	}
	return []string{" ", "\n", "\t", "\r"}[r.Intn(4)]
}

// soundPiece is one that can be read wherever a blank stands ahead of it and behind.
func soundPiece(r *rand.Rand) string {
	for {
		p := piece(r)
		if _, _, e := lex.Words(p); e == api.OK {
			return p
		}
	}
}

// P10.1: scripts of any pieces and bytes are read as the words say; no call panics.
func TestAnyScripts(t *testing.T) {
	r := rand.New(rand.NewSource(10))
	for range 60000 {
		var b strings.Builder
		for range r.Intn(12) {
			b.WriteString(piece(r))
		}
		mustAsWords(t, b.String())
	}
	for range 20000 {
		b := make([]byte, r.Intn(20))
		r.Read(b)
		mustAsWords(t, string(b))
		lex.Key(string(b))
	}
	const few = "a1.e+-\"\\n\n =~$"
	for range 60000 {
		b := make([]byte, r.Intn(12))
		for i := range b {
			b[i] = few[r.Intn(len(few))]
		}
		mustAsWords(t, string(b))
	}
}

// soundScript is a script that can be read.
func soundScript(r *rand.Rand) string {
	for {
		var b strings.Builder
		for range r.Intn(15) {
			b.WriteString(soundPiece(r))
			b.WriteString([]string{"", " ", "\n", " -- c\n"}[r.Intn(4)])
		}
		if r.Intn(4) == 0 {
			b.WriteString("-- end")
		}
		if _, _, e := lex.Words(b.String()); e == api.OK {
			return b.String()
		}
	}
}

// sizeOf is how many bytes a token has that is the first of s.
func sizeOf(w api.Token, s string) int {
	switch w.K {
	case api.TokNum:
		return len(numeral.FindString(s))
	case api.TokText:
		return len(textForm.FindString(s))
	}
	return len(w.S)
}

// P10.2: places rise; between tokens are blanks and comments alone.
func TestInOrder(t *testing.T) {
	between := regexp.MustCompile(`^(?:[ \t\n\r]|--[^\n]*(?:\n|$))*$`)
	r := rand.New(rand.NewSource(11))
	for range 20000 {
		s := soundScript(r)
		end := 0
		for _, w := range mustRead(t, s) {
			if w.At < end || w.At > len(s) || !between.MatchString(s[end:w.At]) {
				t.Fatalf("of %q, behind %d: %v", s, end, w)
			}
			size := sizeOf(w, s[w.At:])
			if (size == 0) != (w.K == api.TokEnd) {
				t.Fatalf("of %q: %v has %d bytes", s, w, size)
			}
			end = w.At + size
		}
	}
}

// P10.3: a line feed behind a script that can be read changes nothing but the end's place.
func TestLineFeedBehind(t *testing.T) {
	r := rand.New(rand.NewSource(12))
	for i := range 20000 {
		s := soundScript(r)
		if i == 0 {
			s = ""
		}
		want := mustRead(t, s)
		want[len(want)-1].At++
		if got := mustRead(t, s+"\n"); !slices.Equal(got, want) {
			t.Fatalf("%q and a line feed: %v, not %v", s, got, want)
		}
	}
}

// P10.4: the words of two scripts, a line feed between, are those of the first one and of the second one, farther on.
func TestJoined(t *testing.T) {
	r := rand.New(rand.NewSource(13))
	for range 20000 {
		a, b := soundScript(r), soundScript(r)
		want := mustRead(t, a)
		want = want[:len(want)-1]
		for _, w := range mustRead(t, b) {
			w.At += len(a) + 1
			want = append(want, w)
		}
		if got := mustRead(t, a+"\n"+b); !slices.Equal(got, want) {
			t.Fatalf("%q and %q: %v, not %v", a, b, got, want)
		}
	}
	a := strings.Repeat("a ", 16384)
	mustFail(t, a+"\nb", len(a)+1, api.ErrLong)
}

// P10.1: the chapter's example, with kinds, places and the number.
func TestExample(t *testing.T) {
	got := mustRead(t, "a.b..1.5")
	want := []api.Token{
		{K: api.TokName, At: 0, S: "a"},
		{K: api.TokWord, At: 1, S: "."},
		{K: api.TokName, At: 2, S: "b"},
		{K: api.TokWord, At: 3, S: ".."},
		{K: api.TokNum, At: 5, N: api.Num(math.Float64bits(1.5))},
		{K: api.TokEnd, At: 8},
	}
	if !reflect.DeepEqual(got, want) {
		t.Errorf("%v, not %v", got, want)
	}
}

// Memory: an answer is new, its spare room too.
func TestNewMemory(t *testing.T) {
	first := mustRead(t, "a b c")
	kept := slices.Clone(first)
	second := mustRead(t, "a b c")
	clear(second[:cap(second)])
	if !slices.Equal(first, kept) {
		t.Errorf("%v, not %v", first, kept)
	}
}
