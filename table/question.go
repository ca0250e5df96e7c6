package table

import (
	"slices"

	"bailey/api"
	"bailey/atoms"
)

// form is a question as a map's name. (One predicate's questions have one length, so none has to be told from a longer one.)
type form struct {
	pred uint32
	args [api.MaxArity]api.Term
}

// formOf: those questions have one form that are the same but for the numbers of their variables: each variable has the number of the place where it stands first.
func formOf(a api.Atom) form {
	f := form{pred: a.Pred}
	for i, t := range a.Args {
		if t.Var {
			t.N = uint32(slices.Index(a.Args, t))
		}
		f.args[i] = t
	}
	return f
}

// whole: the question that all facts of an atom's predicate answer.
func whole(a api.Atom) api.Atom {
	w := api.Atom{Pred: a.Pred}
	for i := range a.Args {
		w.Args = append(w.Args, api.Term{Var: true, N: uint32(i)})
	}
	return w
}

// answering: what is left of a clause, if its heads are to answer a question; and can they?
func answering(c api.Clause, question api.Atom) (left api.Clause, can bool) {
	for i, t := range question.Args {
		has, wants := c.Head.Args[i], t
		if t.Var {
			wants = c.Head.Args[slices.Index(question.Args, t)]
		}
		switch {
		case has == wants:
		case has.Var:
			c = put(c, has, wants)
		case wants.Var:
			c = put(c, wants, has)
		default:
			return api.Clause{}, false
		}
	}
	return c, true
}

// put: a clause with a term in the place of a variable.
func put(c api.Clause, v, by api.Term) api.Clause {
	p := api.Clause{Head: putAtom(c.Head, v, by)}
	for _, b := range c.Body {
		p.Body = append(p.Body, api.Lit{Not: b.Not, A: putAtom(b.A, v, by)})
	}
	return p
}

func putAtom(a api.Atom, v, by api.Term) api.Atom {
	p := api.Atom{Pred: a.Pred}
	for _, t := range a.Args {
		if t == v {
			t = by
		}
		p.Args = append(p.Args, t)
	}
	return p
}

// shared: the variables that an atom has in common with one literal: the one with which it has the most.
func shared(a api.Atom, l []api.Lit) (vars []uint32) {
	for _, b := range l {
		in := atoms.Vars(b.A)
		both := slices.DeleteFunc(atoms.Vars(a), func(v uint32) bool { return !slices.Contains(in, v) })
		if len(both) > len(vars) {
			vars = both
		}
	}
	return vars
}

// only: an atom with some of its variables, and one symbol in the place of all others.
func only(a api.Atom, vars []uint32) api.Atom {
	o := api.Atom{Pred: a.Pred}
	for _, t := range a.Args {
		if t.Var && !slices.Contains(vars, t.N) {
			t = api.Term{}
		}
		o.Args = append(o.Args, t)
	}
	return o
}

// by: an atom with the symbols of a fact in the place of some variables.
func by(a api.Atom, vars []uint32, f api.Fact) api.Atom {
	p := api.Atom{Pred: a.Pred}
	for i, t := range a.Args {
		if t.Var && slices.Contains(vars, t.N) {
			t = api.Term{N: f.Args[i]}
		}
		p.Args = append(p.Args, t)
	}
	return p
}
