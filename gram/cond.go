package gram

import (
	"pointsman/api"
)

// either reads conditions of which one is to hold.
func (p *parser) either() (api.Cond, bool) { return p.several(condOr, wordOr, p.both) }

// both reads conditions that are all to hold.
func (p *parser) both() (api.Cond, bool) { return p.several(condAnd, wordAnd, p.one) }

// several reads one condition, or more with a word between.
func (p *parser) several(op int, word string, read func() (api.Cond, bool)) (api.Cond, bool) {
	c := api.Cond{Op: op}
next:
	member, ok := read()
	if !ok {
		return api.Cond{}, false
	}
	c.L = append(c.L, member)
	if p.pass(word) {
		goto next
	}
	if len(c.L) == 1 {
		return member, true
	}
	return c, true
}

// one reads a test, or what leads one deeper.
func (p *parser) one() (api.Cond, bool) {
	switch {
	case p.is(wordNot):
		return p.not()
	case p.is(openParen):
		return p.paren()
	}
	return p.test()
}

func (p *parser) not() (api.Cond, bool) {
	if !p.open(wordNot) {
		return api.Cond{}, false
	}
	defer p.shut()
	c, ok := p.one()
	if !ok {
		return api.Cond{}, false
	}
	return api.Cond{Op: condNot, L: []api.Cond{c}}, true
}

func (p *parser) paren() (api.Cond, bool) {
	if !p.open(openParen) {
		return api.Cond{}, false
	}
	defer p.shut()
	c, ok := p.either()
	return c, ok && p.pass(endParen)
}

// test reads a condition without members.
func (p *parser) test() (api.Cond, bool) {
	var c api.Cond
	choices := []struct {
		word string
		read func(*api.Cond) bool
	}{
		{"prefix", p.ofPrefix}, {"path", p.ofPath}, {"community", p.ofCommunity}, {"origin", p.ofOrigin}, {"med", p.ofMed},
	}
	for _, x := range choices {
		if p.pass(x.word) {
			ok := x.read(&c)
			return c, ok
		}
	}
	return api.Cond{}, false
}

func (p *parser) ofPrefix(c *api.Cond) bool {
	switch {
	case p.pass(wordIn):
		c.Op, c.N = condIn, mostLen
	case p.pass("is"):
		c.Op = condIs
	default:
		return false
	}
	t, ok := p.take(kindPrefix)
	c.Prefix = t.Prefix
	if ok && c.Op == condIn && p.pass(wordLe) {
		return p.number(&c.N)
	}
	return ok
}

func (p *parser) ofPath(c *api.Cond) bool {
	return p.choose(c, condHas, "has", "from", "origin", "longer") && p.number(&c.N)
}

func (p *parser) ofCommunity(c *api.Cond) bool {
	t, ok := p.take(kindCommunity)
	c.Op, c.N = condCommunity, t.N
	return ok
}

func (p *parser) ofOrigin(c *api.Cond) bool {
	if !p.choose(c, 0, "inner", "outer", "unknown") {
		return false
	}
	c.Op, c.N = condInner, c.Op
	return true
}

func (p *parser) ofMed(c *api.Cond) bool {
	c.Op = condMed
	return p.pass("above") && p.number(&c.N)
}

// choose passes one of some words; they count from first on.
func (p *parser) choose(c *api.Cond, first int, words ...string) bool {
	for i, word := range words {
		if p.pass(word) {
			c.Op = first + i
			return true
		}
	}
	return false
}
