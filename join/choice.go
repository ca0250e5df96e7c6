package join

import (
	"slices"

	"bailey/api"
	"bailey/atoms"
)

// set is one of small numbers: of variables, or of places in a list of literals.
type set uint32

func (s set) has(n int) bool    { return s>>n&1 == 1 }
func (s set) hasAll(t set) bool { return t&^s == 0 }

// part is an atom of a clause, and its variables.
type part struct {
	atom api.Atom
	vars set
}

func partOf(a api.Atom) part {
	p := part{atom: a}
	for _, n := range atoms.Vars(a) {
		p.vars |= 1 << n
	}
	return p
}

// choice is a symbol for each variable: 0 for one that has none yet.
type choice [api.MaxVars]uint32

// only: a choice for some variables alone. Those that choose the same for them are so one array.
func (c choice) only(vars set) choice {
	for n := range c {
		if !vars.has(n) {
			c[n] = 0
		}
	}
	return c
}

// with: a choice that has the symbols of another one for some variables.
func (c choice) with(other choice, vars set) choice {
	for n := range c {
		if vars.has(n) {
			c[n] = other[n]
		}
	}
	return c
}

// put: an atom with the symbols of a choice in the place of some variables.
func (c choice) put(a api.Atom, vars set) api.Atom {
	args := slices.Clone(a.Args)
	for i, t := range args {
		if t.Var && vars.has(int(t.N)) {
			args[i] = api.Term{N: c[t.N]}
		}
	}
	return api.Atom{Pred: a.Pred, Args: args}
}

// becomes: the fact that a part becomes by a choice for all of its variables.
func (c choice) becomes(p part) api.Fact {
	f, _ := atoms.Of(c.put(p.atom, p.vars))
	return f
}
