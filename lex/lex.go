// Package lex is layer 1: tokens of a program; see shared/doc/01-lex.md.
package lex

import (
	"strings"

	"bobbin/api"
)

// maxNumber is one more than the greatest int64: behind a - it is the least one.
const maxNumber = "9223372036854775808"

// signs has the longer ones first, so that the first one that stands at a place is the longest one there.
var signs = [...]string{
	"||", "&&", "<=", ">=", "==", "!=",
	"<", ">", "=", "+", "-", "*", "/", "%", "!",
	"(", ")", "{", "}", "[", "]", ";", ",",
}

// Tokens are a text's tokens.
func Tokens(s string) ([]api.Token, int, api.Errno) {
	if len(s) > api.MaxText {
		return nil, 0, api.ErrTooLarge
	}
	var out []api.Token
	for at := idle(s, 0); at < len(s); at = idle(s, at) {
		kind, end := cut(s, at)
		if kind == 0 {
			return nil, at, api.ErrSyntax
		}
		// A clone, since a part of s would share its bytes and keep all of it.
		out = append(out, api.Token{Kind: kind, Text: strings.Clone(s[at:end]), At: at})
		at = end
	}
	return out, 0, api.OK
}

// Reserved says whether a text is a reserved word.
func Reserved(s string) bool {
	switch s {
	case "global", "array", "lock", "func", "thread", "var", "if", "else", "while", "with",
		"print", "call", "return", "true", "false":
		return true
	}
	return false
}

// Name says whether a text is a name.
func Name(s string) bool {
	if s == "" || Reserved(s) {
		return false
	}
	kind, end := cut(s, 0)
	return kind == api.Name && end == len(s)
}

// idle is the place, from at on, where neither a blank nor a remark stands.
func idle(s string, at int) int {
	for at < len(s) {
		switch {
		case blank(s[at]):
			at++
		case s[at] == '#':
			n := strings.IndexByte(s[at:], '\n')
			if n < 0 {
				return len(s)
			}
			at += n
		default:
			return at
		}
	}
	return at
}

// cut tells the Kind of the token that begins at a place, and its end; the Kind 0, if none does.
func cut(s string, at int) (uint8, int) {
	far := func(holds func(byte) bool) int {
		end := at
		for end < len(s) && holds(s[end]) {
			end++
		}
		return end
	}
	switch c := s[at]; {
	case begins(c):
		end := far(within)
		if end-at > api.MaxName {
			return 0, 0
		}
		return api.Name, end
	case digit(c):
		end := far(digit)
		if !number(s[at:end]) || end < len(s) && begins(s[end]) {
			return 0, 0
		}
		return api.Number, end
	}
	for _, x := range signs {
		if strings.HasPrefix(s[at:], x) {
			return api.Sign, at + len(x)
		}
	}
	return 0, 0
}

// number says whether digits are a number: of texts as long as maxNumber the one that sorts behind is the greater one.
func number(digits string) bool {
	if digits[0] == '0' {
		return digits == "0"
	}
	return len(digits) < len(maxNumber) || len(digits) == len(maxNumber) && digits <= maxNumber
}

// blank says whether a byte is passed over; a 0D is not.
func blank(c byte) bool { return c == ' ' || c == '\t' || c == '\n' }

// begins says whether a name may begin by a byte.
func begins(c byte) bool { return 'a' <= c && c <= 'z' || 'A' <= c && c <= 'Z' || c == '_' }

// within says whether a byte may go on a name.
func within(c byte) bool { return begins(c) || digit(c) }

// digit says whether a byte is a decimal digit.
func digit(c byte) bool { return '0' <= c && c <= '9' }
