package parse_test

import (
	"regexp"
	"slices"
	"strings"

	"bobbin/api"
	"bobbin/lex"
)

// grammar is the chapter's one; a wide number is one behind the - of a global.
const grammar = `
program   = declaration*
declaration = "global" name "=" ( "-" wide | number ) ";" | "array" name "[" number "]" ";" | "lock" name ";"
          | "func" name "(" names? ")" block | "thread" name block
names     = name ( "," name )*
block     = "{" statement* "}"
statement = "var" name "=" ( call | or ) ";" | "if" or block ( "else" block )? | "while" or block
          | "with" name block | "print" or ";" | call ";" | "return" or ";"
          | name "=" ( call | or ) ";" | name "[" or "]" "=" or ";"
call      = "call" name "(" ( or ( "," or )* )? ")"
or        = and ( "||" and )*
and       = cmp ( "&&" cmp )*
cmp       = sum ( ( "<" | "<=" | "==" | "!=" | ">" | ">=" ) sum )?
sum       = term ( ( "+" | "-" ) term )*
term      = unary ( ( "*" | "/" | "%" ) unary )*
unary     = ( "-" | "!" ) unary | atom
atom      = number | "true" | "false" | name ( "[" or "]" )? | "(" or ")"
`

// item is a piece of the grammar: its sort is " for a token, a for a rule's name, or one of | * ? or . for pieces in a row.
type item struct {
	sort  byte
	text  string
	parts []*item
}

// rules are the grammar's rules by their names.
func rules() map[string]*item {
	heads := regexp.MustCompile(`(?m)^([a-z]+) *= `)
	out := map[string]*item{}
	places := heads.FindAllStringSubmatchIndex(grammar, -1)
	for i, p := range places {
		end := len(grammar)
		if i+1 < len(places) {
			end = places[i+1][0]
		}
		words := regexp.MustCompile(`"[^"]+"|[a-z]+|[()|*?]`).FindAllString(grammar[p[1]:end], -1)
		out[grammar[p[2]:p[3]]] = choiceOf(&words)
	}
	return out
}

// choiceOf reads pieces up to a ) or the end.
func choiceOf(words *[]string) *item {
	choice := &item{sort: '|', parts: []*item{{sort: '.'}}}
	for len(*words) > 0 {
		w := (*words)[0]
		*words = (*words)[1:]
		row := choice.parts[len(choice.parts)-1]
		switch w {
		case ")":
			return choice
		case "|":
			choice.parts = append(choice.parts, &item{sort: '.'})
		case "(":
			row.parts = append(row.parts, choiceOf(words))
		case "*", "?":
			last := len(row.parts) - 1
			row.parts[last] = &item{sort: w[0], parts: []*item{row.parts[last]}}
		default:
			x := &item{sort: 'a', text: w}
			if w[0] == '"' {
				x = &item{sort: '"', text: strings.Trim(w, `"`)}
			}
			row.parts = append(row.parts, x)
		}
	}
	return choice
}

type spot struct {
	x  *item
	at int
}

// judge finds all places to which a piece of the grammar may reach, by trying all ways.
type judge struct {
	rules  map[string]*item
	tokens []api.Token
	known  map[spot][]int
	far    int // the farthest token that was looked at
}

func (j *judge) fits(x *item, t api.Token) bool {
	switch {
	case x.sort == '"':
		return t.Text == x.text
	case x.text == "name":
		return t.Kind == api.Name && !slices.Contains(words, t.Text)
	}
	most := map[string]string{"number": "9223372036854775807", "wide": "9223372036854775808"}[x.text]
	return t.Kind == api.Number && (len(t.Text) < len(most) || len(t.Text) == len(most) && t.Text <= most)
}

// ends are the places behind a piece that begins at a place, rising.
func (j *judge) ends(x *item, at int) []int {
	if l, ok := j.known[spot{x, at}]; ok {
		return l
	}
	var out []int
	switch rule := j.rules[x.text]; {
	case x.sort == 'a' && rule != nil:
		out = j.ends(rule, at)
	case x.sort == 'a' || x.sort == '"':
		j.far = max(j.far, at)
		if at < len(j.tokens) && j.fits(x, j.tokens[at]) {
			out = []int{at + 1}
		}
	case x.sort == '|':
		for _, p := range x.parts {
			out = append(out, j.ends(p, at)...)
		}
	case x.sort == '.':
		out = []int{at}
		for _, p := range x.parts {
			out = j.behind(p, out)
		}
	case x.sort == '?':
		out = append(j.ends(x.parts[0], at), at)
	case x.sort == '*':
		for more := []int{at}; len(more) > 0; more = j.behind(x.parts[0], more) {
			out = append(out, more...)
		}
	}
	slices.Sort(out)
	out = slices.Clip(slices.Compact(out))
	j.known[spot{x, at}] = out
	return out
}

// behind are the places behind a piece that begins at one of some places.
func (j *judge) behind(x *item, starts []int) []int {
	var out []int
	for _, at := range starts {
		out = append(out, j.ends(x, at)...)
	}
	slices.Sort(out)
	return slices.Compact(out)
}

// judged tells what the grammar says of a text that lex takes: whether it is of the form, and else the first wrong place.
func judged(rules map[string]*item, s string) (int, bool) {
	tokens, _, _ := lex.Tokens(s)
	j := &judge{rules: rules, tokens: tokens, known: map[spot][]int{}}
	if slices.Contains(j.ends(rules["program"], 0), len(tokens)) {
		return 0, true
	}
	return append(tokens, api.Token{At: len(s)})[j.far].At, false
}
