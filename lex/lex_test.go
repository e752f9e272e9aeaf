package lex_test

import (
	"regexp"
	"slices"
	"strings"
	"testing"

	"bobbin/api"
	"bobbin/lex"
)

var words = []string{"global", "array", "lock", "func", "thread", "var", "if", "else", "while", "with", "print", "call", "return", "true", "false"}

var signs = []string{"||", "&&", "<=", ">=", "==", "!=", "<", ">", "=", "+", "-", "*", "/", "%", "!", "(", ")", "{", "}", "[", "]", ";", ","}

const whole = `# two threads, one lock
global x = -1;	array a[1024]; lock l;
func f(p, q_2) { return p * (q_2 % 3) / 2; }
thread t { with l { x = x + 1; a[x] = call f(x, 007_); } }
`

// samples are ordinary texts, edges and wrong ones.
var samples = []string{
	"", " ", "\t\n ", "x", "x1=-2;", "a<=b||c", "a && b", "!a != b", "if x < 3 { y = 0; } else { z = true; }",
	"global n = -9223372036854775808;", "9223372036854775808 0 10", "thread t{print(a[i+1]*2%3/4-5);}", "_ __ _1 A9z",
	"a # remark $ 007 \n b", "#\n", "##\n#\n1", "x\n\n\n  y", "- - --", "call f(1,2,3);", "while0", "ifif if", "<==", "<= =", "a\nb\tc d",
	"007", "1x", "a$", "a&b", "a|b", "9223372036854775809", "x 1_ $", "\r", "a\x00b", "é", "1 é", "\"", ".", "'", "@", "~", "^", "?", ":", "\\", "`",
	whole, strings.Replace(whole, "007_", "7", 1), strings.Repeat("n", api.MaxName), strings.Repeat("n", api.MaxName+1),
}

// shown are tokens as texts, without their places.
func shown(l []api.Token) []string {
	var out []string
	for _, x := range l {
		out = append(out, string('0'+rune(x.Kind))+x.Text)
	}
	return out
}

// moved are tokens that stand farther on.
func moved(l []api.Token, by int) []api.Token {
	out := slices.Clone(l)
	for i := range out {
		out[i].At += by
	}
	return out
}

// short are all texts of up to four of some bytes that the rules tell apart.
func short() []string {
	out, last := []string{""}, []string{""}
	for range 4 {
		var next []string
		for _, s := range last {
			for _, c := range []byte("aZ_019 \n#|&<=!-$\r\x80") {
				next = append(next, s+string([]byte{c}))
			}
		}
		out, last = append(out, next...), next
	}
	return out
}

// long are texts that are put together from pieces, always the same ones.
func long(count int) []string {
	pieces := append(append([]string{" ", "\n", "\t", " ", "\n", "# a 007 $\n", "#", "a", "b_1", "x", "0", "1", "42", "|", "&", "$", "\r", strings.Repeat("q", 20)}, words...), signs...)
	seed := uint32(1)
	next := func(n int) int {
		seed = seed*1664525 + 1013904223
		return int(seed>>8) % n
	}
	var out []string
	for range count {
		var b strings.Builder
		for range next(30) {
			b.WriteString(pieces[next(len(pieces))])
			if next(3) > 0 {
				b.WriteByte(' ')
			}
		}
		out = append(out, b.String())
	}
	return out
}

func all() []string { return slices.Concat(samples, short(), long(3000)) }

var (
	idleBytes = regexp.MustCompile(`^(?:[ \t\n]|#[^\n]*(?:\n|$))*`)
	nameBytes = regexp.MustCompile(`^[A-Za-z_][A-Za-z0-9_]*`)
	digits    = regexp.MustCompile(`^[0-9]+`)
	number    = regexp.MustCompile(`^(?:0|[1-9][0-9]{0,17}|[1-8][0-9]{18}|9[01][0-9]{17}|92[01][0-9]{16}|922[0-2][0-9]{15}|9223[0-2][0-9]{14}|92233[0-6][0-9]{13}|922337[01][0-9]{12}|92233720[0-2][0-9]{10}|922337203[0-5][0-9]{9}|9223372036[0-7][0-9]{8}|92233720368[0-4][0-9]{7}|922337203685[0-3][0-9]{6}|9223372036854[0-6][0-9]{5}|92233720368547[0-6][0-9]{4}|922337203685477[0-4][0-9]{3}|9223372036854775[0-7][0-9]{2}|922337203685477580[0-8])$`)
	signBytes = regexp.MustCompile(`^(?:\|\||&&|[<>=!]=|[<>=+\-*/%!(){}\[\];,])`)
)

// cut does what Tokens is to do, by other means.
func cut(s string) ([]api.Token, int, api.Errno) {
	if len(s) > api.MaxText {
		return nil, 0, api.ErrTooLarge
	}
	var out []api.Token
	at := 0
	for {
		at += len(idleBytes.FindString(s[at:]))
		rest := s[at:]
		if rest == "" {
			return out, 0, api.OK
		}
		x := api.Token{At: at}
		if n := nameBytes.FindString(rest); n != "" && len(n) <= api.MaxName {
			x.Kind, x.Text = api.Name, n
		} else if n := digits.FindString(rest); number.MatchString(n) && !nameBytes.MatchString(rest[len(n):]) {
			x.Kind, x.Text = api.Number, n
		} else if n := signBytes.FindString(rest); n != "" {
			x.Kind, x.Text = api.Sign, n
		} else {
			return nil, at, api.ErrSyntax
		}
		out = append(out, x)
		at += len(x.Text)
	}
}

// P1.1: the chapter's examples.
func TestExamples(t *testing.T) {
	want := []api.Token{{Kind: api.Name, Text: "x1"}, {Kind: api.Sign, Text: "=", At: 2}, {Kind: api.Sign, Text: "-", At: 3}, {Kind: api.Number, Text: "2", At: 4}, {Kind: api.Sign, Text: ";", At: 5}}
	if l, at, e := lex.Tokens("x1=-2;#y"); e != api.OK || at != 0 || !slices.Equal(l, want) {
		t.Error(l, at, e)
	}
	if l, _, e := lex.Tokens("a<=b||c"); e != api.OK || !slices.Equal(shown(l), []string{"1a", "3<=", "1b", "3||", "1c"}) {
		t.Error(l, e)
	}
	if !lex.Name("x1") || lex.Name("if") {
		t.Error("Name")
	}
}

// P1.1: what is wrong first is told, with its place, and nothing beside it.
func TestRefused(t *testing.T) {
	for _, x := range []struct {
		s  string
		at int
	}{
		{"007", 0}, {"1x", 0}, {"a$", 1}, {"a&b", 1}, {"a|", 1}, {"&&&", 2}, {"||| ", 2}, {"00", 0}, {"01", 0}, {"x -01", 3}, {"0_", 0}, {"0x1", 0}, {"1_", 0}, {"1Z", 0}, {"1if", 0},
		{"$ 007", 0}, {"a 1x $", 2}, {"a $ 1x", 2}, {"# $\n $", 5}, {"a\rb", 1}, {"\r\n", 0}, {"a\vb", 1}, {"a\fb", 1}, {"a\x00", 1}, {"é", 0}, {"aé", 1}, {"1é", 1}, {"a\u00a0b", 1}, {"a\u2028b", 1}, {"\xff", 0}, {"\ufeffa", 0}, {".", 0}, {"1.5", 1},
	} {
		if l, at, e := lex.Tokens(x.s); e != api.ErrSyntax || at != x.at || len(l) != 0 {
			t.Errorf("%q: %v %d %v", x.s, l, at, e)
		}
	}
}

// P1.1: each byte alone, and behind a name.
func TestBytes(t *testing.T) {
	const known = "abcdefghijklmnopqrstuvwxyzABCDEFGHIJKLMNOPQRSTUVWXYZ_0123456789<>=+-*/%!(){}[];, \t\n#"
	for c := range 256 {
		s := string([]byte{byte(c)})
		want := api.ErrSyntax
		if strings.Contains(known, s) {
			want = api.OK
		}
		if l, _, e := lex.Tokens(s); e != want || want == api.OK && (len(l) == 0) != strings.Contains(" \t\n#", s) {
			t.Errorf("%q: %v %v", s, l, e)
		}
		if _, at, e := lex.Tokens("ab" + s); e != want || want != api.OK && at != 2 {
			t.Errorf("behind a name %q: %d %v", s, at, e)
		}
	}
}

// P1.1: the longest sign is taken, of those that begin alike too.
func TestSigns(t *testing.T) {
	for _, x := range signs {
		if l, _, e := lex.Tokens(x); e != api.OK || !slices.Equal(l, []api.Token{{Kind: api.Sign, Text: x}}) {
			t.Error(x, l, e)
		}
	}
	for s, want := range map[string]string{"<==": "<= =", "===": "== =", "====": "== ==", "!==": "!= =", "!!=": "! !=", ">>=": "> >=", "=<": "= <", "=>": "= >", "<<": "< <", "<>": "< >", "=!": "= !", "=!=": "= !=", "--": "- -", "||||": "|| ||", "&&||": "&& ||", "a=-1": "a = - 1", "<=-": "<= -"} {
		l, _, e := lex.Tokens(s)
		var got []string
		for _, x := range l {
			got = append(got, x.Text)
		}
		if e != api.OK || strings.Join(got, " ") != want {
			t.Errorf("%q: %q %v", s, got, e)
		}
	}
}

// P1.1: a text of MaxText bytes, and of one more.
func TestMaxText(t *testing.T) {
	for _, x := range []struct {
		piece string
		count int
	}{{" ", 0}, {"a ", api.MaxText / 2}, {";", api.MaxText}, {"\n", 0}, {"#", 0}} {
		s := strings.Repeat(x.piece, api.MaxText/len(x.piece))
		if l, at, e := lex.Tokens(s); e != api.OK || at != 0 || len(l) != x.count {
			t.Errorf("%q: %d %d %v", x.piece, len(l), at, e)
		}
		for _, more := range []string{s + " ", " " + s, s + "$", "$" + s, s + s} {
			if l, at, e := lex.Tokens(more); e != api.ErrTooLarge || at != 0 || len(l) != 0 {
				t.Errorf("%q and more: %d %d %v", x.piece, len(l), at, e)
			}
		}
	}
	if _, at, e := lex.Tokens(strings.Repeat(" ", api.MaxText-1) + "$"); e != api.ErrSyntax || at != api.MaxText-1 {
		t.Error("last byte:", at, e)
	}
}

// P1.1: a name of MaxName bytes, and of one more.
func TestMaxName(t *testing.T) {
	for _, s := range []string{strings.Repeat("a", api.MaxName), "_" + strings.Repeat("9", api.MaxName-1), strings.Repeat("Zz", api.MaxName/2), strings.Repeat("_", api.MaxName)} {
		if l, _, e := lex.Tokens("1+" + s + ";"); e != api.OK || len(l) != 4 || l[2] != (api.Token{Kind: api.Name, Text: s, At: 2}) || !lex.Name(s) {
			t.Error(s, l, e)
		}
		for _, c := range []string{"a", "Z", "_", "0"} {
			if l, at, e := lex.Tokens("1+" + s + c + "; $"); e != api.ErrSyntax || at != 2 || len(l) != 0 || lex.Name(s+c) {
				t.Error(s+c, l, at, e)
			}
		}
	}
	if long := strings.Repeat("a", api.MaxText+1); lex.Name(long) || lex.Reserved(long) {
		t.Error("a name that is longer than a text")
	}
}

// P1.1: the greatest number, and one more.
func TestNumbers(t *testing.T) {
	for _, s := range []string{"0", "1", "9", "10", "100", "1234567890", "999999999999999999", "1000000000000000000", "8999999999999999999", "9223372036854775799", "9223372036854775807", "9223372036854775808"} {
		if l, at, e := lex.Tokens(" " + s + ","); e != api.OK || at != 0 || len(l) != 2 || l[0] != (api.Token{Kind: api.Number, Text: s, At: 1}) {
			t.Error(s, l, at, e)
		}
	}
	for _, s := range []string{"9223372036854775809", "9223372036854775810", "9223372036854776808", "9300000000000000000", "9999999999999999999", "10000000000000000000", "18446744073709551616", "18446744073709551617", "92233720368547758080", "09223372036854775808", "00", strings.Repeat("1", 500)} {
		if l, at, e := lex.Tokens("- " + s + " $"); e != api.ErrSyntax || at != 2 || len(l) != 0 {
			t.Error(s, l, at, e)
		}
	}
}

// P1.1: the rules, done by other means, on many texts.
func TestRules(t *testing.T) {
	for _, s := range all() {
		l, at, e := lex.Tokens(s)
		if l2, at2, e2 := cut(s); e != e2 || at != at2 || !slices.Equal(l, l2) {
			t.Fatalf("%q: %v %d %v, not %v %d %v", s, l, at, e, l2, at2, e2)
		}
		name := nameBytes.FindString(s) == s && s != "" && len(s) <= api.MaxName && !slices.Contains(words, s)
		if lex.Name(s) != name || lex.Reserved(s) != slices.Contains(words, s) {
			t.Fatalf("%q: Name %v, Reserved %v", s, lex.Name(s), lex.Reserved(s))
		}
	}
}

// R2, R3: answers are equal, and none shows what is written into another one.
func TestApart(t *testing.T) {
	a, _, _ := lex.Tokens(whole[:60])
	b, _, _ := lex.Tokens(whole[:60])
	kept := slices.Clone(b)
	for i := range a {
		a[i] = api.Token{}
	}
	c, _, _ := lex.Tokens(whole[:60])
	if len(kept) == 0 || !slices.Equal(b, kept) || !slices.Equal(c, kept) {
		t.Error(b, c)
	}
}

// P1.2: what is between tokens is idle, and tokens are the text's own bytes.
func TestNothingLost(t *testing.T) {
	for _, s := range all() {
		l, _, e := lex.Tokens(s)
		if e != api.OK {
			continue
		}
		end := 0
		for _, x := range append(l, api.Token{At: len(s)}) {
			if x.At < end || !strings.HasPrefix(s[x.At:], x.Text) {
				t.Fatalf("%q: %v", s, x)
			}
			if gap := s[end:x.At]; idleBytes.FindString(gap) != gap || x.At < len(s) && strings.Contains(gap[strings.LastIndexByte(gap, '\n')+1:], "#") {
				t.Fatalf("%q: between tokens stands %q", s, gap)
			}
			end = x.At + len(x.Text)
		}
	}
}

// P1.3: tokens with a blank behind each are cut into themselves.
func TestAgain(t *testing.T) {
	for _, s := range all() {
		l, _, e := lex.Tokens(s)
		if e != api.OK {
			continue
		}
		var b strings.Builder
		for _, x := range l {
			b.WriteString(x.Text + " ")
		}
		if l2, at, e := lex.Tokens(b.String()); e != api.OK || at != 0 || !slices.Equal(shown(l), shown(l2)) {
			t.Fatalf("%q: %v %v", b.String(), l2, e)
		}
	}
}

// P1.4: two texts with a line's end between.
func TestTwoTexts(t *testing.T) {
	texts := slices.Concat(samples, long(60))
	for _, a := range texts {
		la, ata, ea := lex.Tokens(a)
		for _, b := range texts {
			want, at, e := lex.Tokens(b)
			switch {
			case ea != api.OK:
				want, at, e = nil, ata, ea
			case e != api.OK:
				at += len(a) + 1
			default:
				want = append(slices.Clone(la), moved(want, len(a)+1)...)
			}
			if l, at2, e2 := lex.Tokens(a + "\n" + b); e2 != e || at2 != at || !slices.Equal(l, want) {
				t.Fatalf("%q, %q: %v %d %v", a, b, l, at2, e2)
			}
		}
	}
}

// P1.5: blanks, line's ends and remarks ahead.
func TestIdleAhead(t *testing.T) {
	for _, idle := range []string{" ", "\t", "\n", "#\n", "# if 007 $ é\r\n", " \n# a\n\t#\n", "\n\n   ", "#\x00\xff# \n", strings.Repeat("# x\n ", 1000)} {
		for _, s := range slices.Concat(samples, long(300)) {
			want, at, e := lex.Tokens(s)
			if e != api.OK {
				at += len(idle)
			}
			if l, at2, e2 := lex.Tokens(idle + s); e2 != e || at2 != at || !slices.Equal(l, moved(want, len(idle))) {
				t.Fatalf("%q ahead of %q: %v %d %v", idle, s, l, at2, e2)
			}
		}
	}
}

// P1.6: names and reserved words are one token each, and apart.
func TestWords(t *testing.T) {
	names := []string{"a", "Z", "_", "_0", "x1", "If", "IF", "iff", "i", "globals", "glob", "tru", "True", "var_", "_var", "elseif", "func1", "api", "Name"}
	for _, s := range slices.Concat(words, names) {
		if l, _, e := lex.Tokens(s); e != api.OK || !slices.Equal(l, []api.Token{{Kind: api.Name, Text: s}}) {
			t.Error(s, l, e)
		}
		if word := slices.Contains(words, s); lex.Reserved(s) != word || lex.Name(s) == word {
			t.Error(s, lex.Reserved(s), lex.Name(s))
		}
	}
	for _, s := range names {
		for _, c := range "azAZ_09" {
			if more := s + string(c); !lex.Name(more) && !lex.Reserved(more) {
				t.Error(more)
			}
		}
	}
	for _, w := range words {
		if s := w[:len(w)-1]; !lex.Name(s) || lex.Reserved(s) {
			t.Error(s)
		}
	}
	for _, s := range []string{"", " ", "1", "1a", "a b", " a", "a ", "a\n", "if ", " if", "a-", "a#", "#", "-", "é", "aé", "a\x00", "$", "a.b", "\xff"} {
		if lex.Name(s) || lex.Reserved(s) {
			t.Errorf("%q: %v %v", s, lex.Name(s), lex.Reserved(s))
		}
	}
}
