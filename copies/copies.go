// Package copies has whole copies: what they answer shares no memory with what they are of.
package copies

import (
	"slices"

	"bottlepost/api"
)

// Place answers a copy of a place, be it one that may be or not.
func Place(p api.Place) api.Place {
	p.Keep = slices.Clone(p.Keep)
	for i, k := range p.Keep {
		p.Keep[i] = kept(k)
	}
	return p
}

func kept(k api.Kept) api.Kept {
	k.Cargo = slices.Clone(k.Cargo)
	k.Took = slices.Clone(k.Took)
	k.Symbols = slices.Clone(k.Symbols)
	for i, s := range k.Symbols {
		k.Symbols[i] = Symbol(s)
	}
	return k
}

// Symbol answers a copy of a symbol.
func Symbol(s api.Symbol) api.Symbol {
	s.Data = slices.Clone(s.Data)
	return s
}

// Mails answers a copy of all that is on its way.
func Mails(l []api.Mail) []api.Mail {
	l = slices.Clone(l)
	for i, m := range l {
		l[i] = Mail(m)
	}
	return l
}

// Mail answers a copy of one mail.
func Mail(m api.Mail) api.Mail {
	m.F.S = Symbol(m.F.S)
	return m
}
