package parse_test

import (
	"encoding/json"
	"math/big"
	"regexp"
	"slices"
	"strings"

	"accordion/api"
	"accordion/lex"
)

// The functions of this file describe the chapter with its own numbers. They share nothing with the package but the lower layer lex.

// letters holds a letter for each kind of token: s for a literal, v for the other tokens that are a value, $ for the end.
const letters = "${}[],:vvvvvs"

// A shape is a sequence of tokens by their letters in which every list and every map that has ended is replaced by a v.
var (
	ended = regexp.MustCompile(`(\[([sv](,[sv])*)?\]|\{(s:[sv](,s:[sv])*)?\})$`)
	// begun matches the shapes of the prefixes of JSON texts: in each list and map that has not ended there are complete parts, then the next one or the beginning of a part.
	begun = regexp.MustCompile(`^(\[([sv],)*|\{(s:[sv],)*s:)*([sv]|\{(s:[sv],)*s?)?$`)
	whole = regexp.MustCompile(`^[sv]$`)
	// beforeMember matches the shapes after which a literal is the key of a member.
	beforeMember = regexp.MustCompile(`\{(s:[sv],)*$`)
)

// reading is what P11.1 needs to know of the tokens that have been read.
type reading struct {
	shape  string
	values int
	keys   [][]string // of the maps that have not ended
}

// wantError is P11.1 without the limit of the length.
func wantError(s string) (at int, e api.Errno) {
	var r reading
	for end := 0; ; {
		token, e := lex.Next(s, end)
		if e == 0 {
			e = r.add(token)
		}
		if e != 0 {
			return token.From, e
		}
		if token.Kind == 0 {
			return 0, 0
		}
		end = token.To
	}
}

func (r *reading) add(token lex.Token) api.Errno {
	letter := letters[token.Kind]
	before := r.shape
	after := before + string(letter)
	if ended.MatchString(after) {
		after = ended.ReplaceAllString(after, "v")
	}
	isText := letter == '$' && whole.MatchString(before)
	if !isText && !begun.MatchString(after) {
		return 100
	}
	r.shape = after
	switch {
	case letter == 's' && beforeMember.MatchString(before):
		return r.addKey(token.Text)
	case strings.IndexByte("{[vs", letter) >= 0:
		return r.addValue(letter, before)
	case letter == '}':
		r.keys = r.keys[:len(r.keys)-1]
	}
	return 0
}

func (r *reading) addKey(k string) api.Errno {
	of := &r.keys[len(r.keys)-1]
	if strings.Contains(k, "\x00") {
		return 70
	}
	if slices.Contains(*of, k) {
		return 71
	}
	*of = append(*of, k)
	return 0
}

func (r *reading) addValue(letter byte, before string) api.Errno {
	if r.values == 4096 {
		return 5
	}
	if strings.Count(before, "[")+strings.Count(before, "{") >= 64 {
		return 61
	}
	r.values++
	if letter == '{' {
		r.keys = append(r.keys, nil)
	}
	return 0
}

// wantTree returns the tree of a JSON text, of which the library reads the tokens.
func wantTree(s string) api.Node {
	d := json.NewDecoder(strings.NewReader(s))
	d.UseNumber()
	return nextTree(d)
}

func nextTree(d *json.Decoder) api.Node {
	token, err := d.Token()
	if err != nil {
		panic(err)
	}
	switch x := token.(type) {
	case bool:
		if x {
			return api.Node{Kind: 2, N: 1}
		}
		return api.Node{Kind: 2}
	case string:
		return api.Node{Kind: 6, S: x}
	case json.Number:
		n, _ := new(big.Int).SetString(string(x), 10)
		if n.IsInt64() {
			return api.Node{Kind: 3, N: n.Int64()}
		}
		return api.Node{Kind: 4, U: n.Uint64()}
	case json.Delim:
		return partsOf(d, x)
	}
	return api.Node{Kind: 1}
}

func partsOf(d *json.Decoder, first json.Delim) api.Node {
	t := api.Node{Kind: 10}
	if first == '{' {
		t.Kind = 17
	}
	for d.More() {
		if t.Kind == 17 {
			t.Keys = append(t.Keys, nextTree(d).S)
		}
		t.L = append(t.L, nextTree(d))
	}
	if _, err := d.Token(); err != nil {
		panic(err)
	}
	return t
}

// wantParse is P11.1 for a string within the limit of the length.
func wantParse(s string) (t api.Node, at int, e api.Errno) {
	if at, e = wantError(s); e != 0 {
		return api.Node{}, at, e
	}
	return wantTree(s), 0, 0
}
