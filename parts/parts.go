// Package parts stands between the layers 13 and 14, for those that ask clauses for heads. A clause can have far more of them than there may be facts: so one that seems to is asked part by part, for as long as more is wanted.
package parts

import (
	"iter"
	"slices"

	"bailey/api"
	"bailey/atoms"
)

// Asking is a way to ask a clause for heads.
type Asking func(c api.Clause) []api.Fact

// enough is how many heads are told in one list.
const enough = 1 << 18

// asked is how clauses are asked.
type asked struct {
	facts int    // so many are there that a literal can become
	every Asking // for all heads
}

// Of tells, list by list, the heads for which a clause is asked. A part of it is what is left of it by a fact that one of its literals becomes: that is asked for every head.
func Of(c api.Clause, facts int, ask, every Asking) iter.Seq[[]api.Fact] {
	return func(yield func([]api.Fact) bool) { asked{facts, every}.tell(c, ask, yield) }
}

// tell asks a clause at once, if it is small; else, part by part, what is left of it by each fact that one of its literals becomes. And is more wanted?
func (a asked) tell(c api.Clause, ask Asking, yield func([]api.Fact) bool) bool {
	vars := atoms.Vars(c.Head)
	if a.small(c, vars, ask) {
		return yield(ask(c))
	}
	at := slices.IndexFunc(c.Body, func(b api.Lit) bool { return !b.Not && has(b.A, vars[0]) })
	one, left := c.Body[at], api.Clause{Head: c.Head, Body: slices.Delete(slices.Clone(c.Body), at, at+1)}
	for _, f := range a.becomes(one, left) {
		if !a.tell(filled(left, one.A, f), a.every, yield) {
			return false
		}
	}
	return true
}

// becomes: the facts that a literal becomes, as far as what is left of its clause tells them apart: no part is asked twice.
func (a asked) becomes(one api.Lit, left api.Clause) []api.Fact {
	stands := func(v uint32) bool {
		return has(left.Head, v) || slices.ContainsFunc(left.Body, func(b api.Lit) bool { return has(b.A, v) })
	}
	return a.every(api.Clause{Head: only(one.A, stands), Body: []api.Lit{one}})
}

// small: has a clause no more heads than enough? There are no more than choices of a fact for each literal, nor of a symbol for each of the head's variables. To count symbols takes about as long as to ask for the heads; so that is left for where it must be.
func (a asked) small(c api.Clause, vars []uint32, ask Asking) bool {
	facts := slices.Repeat([]int{a.facts}, min(len(vars), held(c)))
	return len(vars) < 2 || within(slices.Values(facts)) || within(symbols(c, vars, ask))
}

// within: do numbers make no more than enough, each with each?
func within(factors iter.Seq[int]) bool {
	product := uint64(1)
	for n := range factors {
		if product *= uint64(n); product > enough {
			return false
		}
	}
	return true
}

// symbols: how many can each variable of a clause's head be?
func symbols(c api.Clause, vars []uint32, ask Asking) iter.Seq[int] {
	return func(yield func(int) bool) {
		for _, v := range vars {
			head := only(c.Head, func(n uint32) bool { return n == v })
			if !yield(len(ask(api.Clause{Head: head, Body: c.Body}))) {
				return
			}
		}
	}
}

// held: how many literals of a clause are to become facts?
func held(c api.Clause) (n int) {
	for _, b := range c.Body {
		if !b.Not {
			n++
		}
	}
	return n
}

// has: does a variable stand in an atom?
func has(a api.Atom, v uint32) bool { return slices.Contains(a.Args, api.Term{Var: true, N: v}) }

// only: an atom with some of its variables, and one symbol in the place of all others.
func only(a api.Atom, some func(v uint32) bool) api.Atom {
	by := map[uint32]uint32{}
	for _, v := range atoms.Vars(a) {
		if !some(v) {
			by[v] = 0
		}
	}
	return put(a, by)
}

// filled: a clause by the symbols of a fact that an atom has become.
func filled(c api.Clause, a api.Atom, f api.Fact) api.Clause {
	by := map[uint32]uint32{}
	for i, t := range a.Args {
		if t.Var {
			by[t.N] = f.Args[i]
		}
	}
	p := api.Clause{Head: put(c.Head, by)}
	for _, b := range c.Body {
		p.Body = append(p.Body, api.Lit{Not: b.Not, A: put(b.A, by)})
	}
	return p
}

// put: an atom with symbols in the place of some variables.
func put(a api.Atom, by map[uint32]uint32) api.Atom {
	args := slices.Clone(a.Args)
	for i, t := range args {
		if symbol, is := by[t.N]; t.Var && is {
			args[i] = api.Term{N: symbol}
		}
	}
	return api.Atom{Pred: a.Pred, Args: args}
}
