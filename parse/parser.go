package parse

import (
	"accordion/api"
	"accordion/key"
	"accordion/lex"
)

// parser holds what is left to read, and what has been read as far as the limits and the parsers of values need it.
type parser struct {
	s       string
	at      int // where the next token starts, or the white space before it
	started int // the number of values that have started
	open    int // the number of lists and maps that have not ended
	parsers map[int]func(first lex.Token) api.Node
}

func newParser(s string) *parser {
	p := &parser{s: s}
	p.parsers = p.valueParsers()
	return p
}

// valueParsers returns, by the kind of the first token of a value, the parsers of what follows it.
func (p *parser) valueParsers() map[int]func(first lex.Token) api.Node {
	return map[int]func(first lex.Token) api.Node{
		lex.Null:  func(lex.Token) api.Node { return api.Node{Kind: api.KNull} },
		lex.False: func(lex.Token) api.Node { return api.Node{Kind: api.KBool, N: 0} },
		lex.True:  func(lex.Token) api.Node { return api.Node{Kind: api.KBool, N: 1} },
		lex.Int:   func(first lex.Token) api.Node { return api.Node{Kind: api.KInt, N: first.N} },
		lex.Uint:  func(first lex.Token) api.Node { return api.Node{Kind: api.KUint, U: first.U} },
		lex.Text:  func(first lex.Token) api.Node { return api.Node{Kind: api.KStr, S: first.Text} },
		lex.List:  func(lex.Token) api.Node { return p.vector() },
		lex.Open:  func(lex.Token) api.Node { return p.mapping() },
	}
}

// next reads a token. A function that calls it decides whether a JSON text can have this token there.
func (p *parser) next() lex.Token {
	token, e := lex.Next(p.s, p.at)
	if e != api.OK {
		failAt(token, e)
	}
	p.at = token.To
	return token
}

func (p *parser) value(first lex.Token) api.Node {
	parse, is := p.parsers[first.Kind]
	switch {
	case !is:
		failAt(first, api.ErrJson)
	case p.started >= api.MaxNodes:
		failAt(first, api.ErrLimit)
	case p.open >= api.MaxDeep:
		failAt(first, api.ErrDeep)
	}
	p.started++
	return parse(first)
}

func (p *parser) vector() api.Node {
	t := api.Node{Kind: api.KVec}
	p.parts(lex.Over, func(first lex.Token) {
		t.L = append(t.L, p.value(first))
	})
	return t
}

func (p *parser) mapping() api.Node {
	t := api.Node{Kind: api.KMap}
	earlier := map[string]bool{}
	p.parts(lex.Close, func(name lex.Token) {
		expect(name, lex.Text)
		checkKey(name, earlier)
		earlier[name.Text] = true
		expect(p.next(), lex.Colon)
		t.Keys = append(t.Keys, name.Text)
		t.L = append(t.L, p.value(p.next()))
	})
	return t
}

func checkKey(name lex.Token, earlier map[string]bool) {
	if e := key.Check(name.Text); e != api.OK {
		failAt(name, e)
	}
	if earlier[name.Text] {
		failAt(name, api.ErrTwice)
	}
}

// parts parses what is between the first and the last token of a list or map; part gets the first token of each value or member.
func (p *parser) parts(last int, part func(first lex.Token)) {
	p.open++
	token := p.next()
	if token.Kind != last {
		part(token)
		for token = p.next(); token.Kind != last; token = p.next() {
			expect(token, lex.Comma)
			part(p.next())
		}
	}
	p.open--
}
