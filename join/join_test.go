package join_test

import (
	"encoding/binary"
	"fmt"
	"maps"
	"math"
	"math/rand"
	"slices"
	"strings"
	"testing"

	"bailey/api"
	"bailey/join"
	"bailey/rel"
	"bailey/safe"
)

// x is a variable, s a symbol.
func x(n uint32) api.Term { return api.Term{Var: true, N: n} }
func s(n uint32) api.Term { return api.Term{N: n} }

func atom(pred uint32, l ...api.Term) api.Atom { return api.Atom{Pred: pred, Args: l} }
func fact(pred uint32, l ...uint32) api.Fact   { return api.Fact{Pred: pred, Args: l} }

func clause(head api.Atom, body ...api.Lit) api.Clause { return api.Clause{Head: head, Body: body} }
func so(a api.Atom) api.Lit                            { return api.Lit{A: a} }
func not(a api.Atom) api.Lit                           { return api.Lit{Not: true, A: a} }

type facts = []api.Fact

// toldName is a fact's, in a form whose order is that of facts.
func toldName(f api.Fact) string {
	b := binary.BigEndian.AppendUint32(nil, f.Pred)
	b = binary.BigEndian.AppendUint64(b, uint64(len(f.Args)))
	for _, n := range f.Args {
		b = binary.BigEndian.AppendUint32(b, n)
	}
	return string(b)
}

// told is a set as the document tells it, of names alone.
type told map[string]api.Fact

func toldOf(l facts) told {
	t := told{}
	for _, f := range l {
		t[toldName(f)] = f
	}
	return t
}

func (t told) has(f api.Fact) bool {
	_, is := t[toldName(f)]
	return is
}

func (t told) list() (l facts) {
	for _, name := range slices.Sorted(maps.Keys(t)) {
		l = append(l, t[name])
	}
	return l
}

// choice is a symbol for each variable.
type choice map[uint32]uint32

// of: what an atom becomes.
func (c choice) of(a api.Atom) api.Fact {
	f := fact(a.Pred)
	for _, t := range a.Args {
		if t.Var {
			t.N = c[t.N]
		}
		f.Args = append(f.Args, t.N)
	}
	return f
}

// fits: does a choice for all variables of a clause fit facts and others, and does one literal at least become one of fresh? (Nil is no set that is asked for.)
func (c choice) fits(d api.Clause, all, fresh, no told) bool {
	one := fresh == nil
	for _, l := range d.Body {
		switch f := c.of(l.A); {
		case l.Not && no.has(f), !l.Not && !all.has(f):
			return false
		case !l.Not && fresh.has(f):
			one = true
		}
	}
	return one
}

// isRight: may a clause be a program alone?
func isRight(c api.Clause) bool {
	_, e := safe.Right([]api.Clause{c})
	return e == api.OK
}

// varsOf: the variables of a clause's body, rising.
func varsOf(c api.Clause) (l []uint32) {
	for _, b := range c.Body {
		for _, t := range b.A.Args {
			if t.Var {
				l = append(l, t.N)
			}
		}
	}
	slices.Sort(l)
	return slices.Compact(l)
}

// toldHeads tells heads by the text's words: of all choices, each variable being each symbol that stands in facts.
func toldHeads(c api.Clause, all, fresh, no told) told {
	found := told{}
	if !isRight(c) {
		return found
	}
	vars, is := varsOf(c), map[uint32]bool{}
	for _, f := range all {
		for _, n := range f.Args {
			is[n] = true
		}
	}
	symbols, by := slices.Sorted(maps.Keys(is)), choice{}
	var try func(at int)
	try = func(at int) {
		if at < len(vars) {
			for _, n := range symbols {
				by[vars[at]] = n
				try(at + 1)
			}
		} else if by.fits(c, all, fresh, no) {
			f := by.of(c.Head)
			found[toldName(f)] = f
		}
	}
	try(0)
	return found
}

// wentHeads tells the same literal by literal, each by each fact, for clauses that have too many variables to try all.
func wentHeads(c api.Clause, all, fresh, no told) told {
	found := told{}
	if !isRight(c) {
		return found
	}
	list, by := all.list(), choice{}
	var try func(at int)
	try = func(at int) {
		switch {
		case at == len(c.Body):
			if by.fits(c, all, fresh, no) {
				f := by.of(c.Head)
				found[toldName(f)] = f
			}
			return
		case c.Body[at].Not:
			try(at + 1)
			return
		}
		a := c.Body[at].A
		for _, f := range list {
			if f.Pred != a.Pred || len(f.Args) != len(a.Args) {
				continue
			}
			had := maps.Clone(by)
			if by.takes(a, f) {
				try(at + 1)
			}
			by = had
		}
	}
	try(0)
	return found
}

// takes: does an atom become a fact, by what is chosen and what can be chosen more?
func (c choice) takes(a api.Atom, f api.Fact) bool {
	for i, t := range a.Args {
		n, is := c[t.N]
		switch {
		case t.Var && !is:
			c[t.N] = f.Args[i]
		case t.Var && n != f.Args[i], !t.Var && t.N != f.Args[i]:
			return false
		}
	}
	return true
}

// alike: are two lists? Nil and empty ones are the same.
func alike(l, m facts) bool {
	return slices.EqualFunc(l, m, func(f, g api.Fact) bool { return toldName(f) == toldName(g) })
}

// short is what a test says of what it handed in.
func short(v any) string {
	text := fmt.Sprint(v)
	return text[:min(len(text), 400)]
}

// set is a rel of facts; of nil it is none.
func set(l facts) *rel.Rel {
	if l == nil {
		return nil
	}
	return rel.Of(l)
}

// headsAre says what Heads answers.
func headsAre(t testing.TB, what string, c api.Clause, all, no, want facts) {
	t.Helper()
	if got := join.Heads(c, set(all), set(no)); !alike(got, want) {
		t.Fatalf("P13.1: %s: Heads of %v, facts %s, no %s: %s, not %s", what, c, short(all), short(no), short(got), short(want))
	}
}

// newsAre says what News answers.
func newsAre(t testing.TB, what string, c api.Clause, all, fresh, no, want facts) {
	t.Helper()
	if got := join.News(c, set(all), set(fresh), set(no)); !alike(got, want) {
		t.Fatalf("P13.2: %s: News of %v, facts %s, fresh %s, no %s: %s, not %s", what, c, short(all), short(fresh), short(no), short(got), short(want))
	}
}

// teller is one who tells heads as the document does.
type teller func(c api.Clause, all, fresh, no told) told

// asTold holds both calls against the document; how many heads and news are there?
func asTold(t testing.TB, what string, tell teller, c api.Clause, all, fresh, no facts) (heads, news int) {
	t.Helper()
	a, f, n := toldOf(all), toldOf(fresh), toldOf(no)
	wantHeads, wantNews := tell(c, a, nil, n).list(), tell(c, a, f, n).list()
	headsAre(t, what, c, all, no, wantHeads)
	newsAre(t, what, c, all, fresh, no, wantNews)
	return len(wantHeads), len(wantNews)
}

const p, q, r = 1, 2, 3
const a, b, c, d = 11, 12, 13, 14

// X, Y, Z are variables.
var X, Y, Z, W = x(0), x(1), x(2), x(3)

func TestTheDocumentsExamples(t *testing.T) {
	rule := clause(atom(p, X), so(atom(q, X, Y)), not(atom(r, Y)))
	all, no := facts{fact(q, a, b), fact(q, c, d)}, facts{fact(r, b)}
	headsAre(t, "the example", rule, all, no, facts{fact(p, c)})
	newsAre(t, "the example, all fresh", rule, all, all, no, facts{fact(p, c)})
	newsAre(t, "the example, one fresh", rule, all, all[:1], no, nil)
	newsAre(t, "the example, the other one fresh", rule, all, all[1:], no, facts{fact(p, c)})
}

func TestFewHeads(t *testing.T) {
	const most = math.MaxUint32
	q2 := facts{fact(q, a, b), fact(q, b, c), fact(q, c, c)}
	for _, e := range []struct {
		what          string
		c             api.Clause
		all, no, want facts
	}{
		{"of nothing", api.Clause{}, nil, nil, facts{fact(0)}},
		{"empty lists", api.Clause{Head: api.Atom{Args: []api.Term{}}, Body: []api.Lit{}}, facts{}, facts{}, facts{fact(0)}},
		{"no body", clause(atom(p, s(b), s(a))), nil, nil, facts{fact(p, b, a)}},
		{"no body, and facts", clause(atom(p, s(b))), q2, q2, facts{fact(p, b)}},
		{"no body, and it is there", clause(atom(p, s(b))), facts{fact(p, b)}, facts{fact(p, b)}, facts{fact(p, b)}},
		{"one", clause(atom(p, X), so(atom(q, X))), facts{fact(q, a)}, nil, facts{fact(p, a)}},
		{"none", clause(atom(p, X), so(atom(q, X))), nil, nil, nil},
		{"none, of an empty set", clause(atom(p, X), so(atom(q, X))), facts{}, facts{}, nil},
		{"another predicate", clause(atom(p, X), so(atom(q, X))), facts{fact(r, a), fact(p, b)}, nil, nil},
		{"another length", clause(atom(p, X), so(atom(q, X))), facts{fact(q), fact(q, a, b), fact(q, c), fact(q, a, a, a)}, nil, facts{fact(p, c)}},
		{"no Args", clause(atom(p), so(atom(q))), facts{fact(q)}, nil, facts{fact(p)}},
		{"no Args, not there", clause(atom(p), so(atom(q))), facts{fact(r), fact(q, a)}, nil, nil},
		{"a symbol in the body", clause(atom(p, X), so(atom(q, X, s(c)))), q2, nil, facts{fact(p, b), fact(p, c)}},
		{"a symbol in the head", clause(atom(p, s(d), X), so(atom(q, s(a), X))), q2, nil, facts{fact(p, d, b)}},
		{"a body of symbols", clause(atom(p), so(atom(q, s(a), s(b)))), q2, nil, facts{fact(p)}},
		{"a body of symbols, not there", clause(atom(p), so(atom(q, s(b), s(a)))), q2, nil, nil},
		{"a variable twice", clause(atom(p, X), so(atom(q, X, X))), q2, nil, facts{fact(p, c)}},
		{"a variable twice in the head", clause(atom(p, X, Y, X), so(atom(q, X, Y))), q2[:2], nil, facts{fact(p, a, b, a), fact(p, b, c, b)}},
		{"turned round, so that the order is another", clause(atom(p, Y, X), so(atom(q, X, Y))), facts{fact(q, a, d), fact(q, b, c), fact(q, c, b)}, nil, facts{fact(p, b, c), fact(p, c, b), fact(p, d, a)}},
		{"a head that many choices find", clause(atom(p, X), so(atom(q, X, Y))), facts{fact(q, a, b), fact(q, a, c), fact(q, a, d), fact(q, b, b)}, nil, facts{fact(p, a), fact(p, b)}},
		{"a head without variables that many choices find", clause(atom(p, s(d)), so(atom(q, X, Y))), q2, nil, facts{fact(p, d)}},
		{"two literals", clause(atom(p, X, Z), so(atom(q, X, Y)), so(atom(q, Y, Z))), q2, nil, facts{fact(p, a, c), fact(p, b, c), fact(p, c, c)}},
		{"two literals, the other one ahead", clause(atom(p, X, Z), so(atom(q, Y, Z)), so(atom(q, X, Y))), q2, nil, facts{fact(p, a, c), fact(p, b, c), fact(p, c, c)}},
		{"two literals that both end there", clause(atom(p, X, Z), so(atom(q, X, Y)), so(atom(q, Z, Y))), q2[1:], nil, facts{fact(p, b, b), fact(p, b, c), fact(p, c, b), fact(p, c, c)}},
		{"two literals of nothing together", clause(atom(p, X, Y), so(atom(q, X)), so(atom(r, Y))), facts{fact(q, a), fact(q, b), fact(r, c), fact(r, d)}, nil, facts{fact(p, a, c), fact(p, a, d), fact(p, b, c), fact(p, b, d)}},
		{"two literals, of which one is nothing", clause(atom(p, X), so(atom(q, X)), so(atom(r, Y))), facts{fact(q, a), fact(q, b)}, nil, nil},
		{"a literal twice", clause(atom(p, X), so(atom(q, X)), so(atom(q, X))), facts{fact(q, a), fact(q, b)}, nil, facts{fact(p, a), fact(p, b)}},
		{"the head's predicate in the body", clause(atom(p, X), so(atom(p, X))), facts{fact(p, b), fact(p, a)}, nil, facts{fact(p, a), fact(p, b)}},
		{"it hangs on facts, not on heads", clause(atom(q, X, Z), so(atom(q, X, Y)), so(atom(q, Y, Z))), facts{fact(q, 1, 2), fact(q, 2, 3), fact(q, 3, 4), fact(q, 4, 5)}, nil, facts{fact(q, 1, 3), fact(q, 2, 4), fact(q, 3, 5)}},
		{"not, and it is none", clause(atom(p), not(atom(q))), facts{fact(q)}, facts{fact(r)}, facts{fact(p)}},
		{"not, and it is one", clause(atom(p), not(atom(q))), nil, facts{fact(q)}, nil},
		{"not, of no set", clause(atom(p), not(atom(q, s(a)))), facts{fact(q, a)}, nil, facts{fact(p)}},
		{"not of symbols, and it is one", clause(atom(p, X), so(atom(q, X)), not(atom(r, s(a)))), facts{fact(q, a), fact(q, b)}, facts{fact(r, a)}, nil},
		{"not of symbols, and it is none", clause(atom(p, X), so(atom(q, X)), not(atom(r, s(a)))), facts{fact(q, a), fact(q, b)}, facts{fact(r, b)}, facts{fact(p, a), fact(p, b)}},
		{"so by facts and not by others alone", clause(atom(p, X), so(atom(q, X)), not(atom(q, X))), facts{fact(q, a), fact(q, b)}, facts{fact(q, b), fact(q, c)}, facts{fact(p, a)}},
		{"not, of two", clause(atom(p, X, Y), so(atom(q, X)), so(atom(q, Y)), not(atom(r, X, Y))), facts{fact(q, a), fact(q, b)}, facts{fact(r, a, b), fact(r, b, b)}, facts{fact(p, a, a), fact(p, b, a)}},
		{"not, of a variable twice", clause(atom(p, X), so(atom(q, X)), not(atom(r, X, X))), facts{fact(q, a), fact(q, b)}, facts{fact(r, a, b), fact(r, b, b)}, facts{fact(p, a)}},
		{"not, ahead of what holds it", clause(atom(p, X), not(atom(r, X)), so(atom(q, X))), facts{fact(q, a), fact(q, b)}, facts{fact(r, a)}, facts{fact(p, b)}},
		{"two that are not, one is one", clause(atom(p, X), so(atom(q, X)), not(atom(r, X)), not(atom(4, X))), facts{fact(q, a), fact(q, b), fact(q, c)}, facts{fact(r, a), fact(4, b)}, facts{fact(p, c)}},
		{"one choice of two is not", clause(atom(p, X), so(atom(q, X, Y)), not(atom(r, Y))), facts{fact(q, a, b), fact(q, a, c), fact(q, d, b)}, facts{fact(r, b)}, facts{fact(p, a)}},
		{"another length of what is not", clause(atom(p, X), so(atom(q, X)), not(atom(r, X))), facts{fact(q, a)}, facts{fact(r), fact(r, a, a), fact(q, a)}, facts{fact(p, a)}},
		{"symbols 0 and the greatest", clause(atom(0, X, s(0), s(most), Y), so(atom(most, X, s(most), Y))), facts{fact(most, 0, most, most), fact(most, 0, 0, 0), fact(most, most, most, 0), fact(0, 0, most, 0)}, nil, facts{fact(0, 0, 0, most, most), fact(0, most, 0, most, 0)}},
		{"0 is a symbol as others", clause(atom(p, X), so(atom(q, X, Y)), so(atom(r, Y))), facts{fact(q, 0, 0), fact(q, a, 0), fact(q, 1, 1), fact(r, 0)}, nil, facts{fact(p, 0), fact(p, a)}},
		{"0 is a symbol of what is not so", clause(atom(p, X), so(atom(q, X)), not(atom(r, X))), facts{fact(q, 0), fact(q, 1)}, facts{fact(r, 0)}, facts{fact(p, 1)}},
		{"variables of any numbers", clause(atom(p, x(15), x(7)), so(atom(q, x(7), x(15)))), q2[:2], nil, facts{fact(p, b, a), fact(p, c, b)}},
		{"a triangle", clause(atom(p, X, Y, Z), so(atom(q, X, Y)), so(atom(q, Y, Z)), so(atom(q, Z, X))), facts{fact(q, a, b), fact(q, b, c), fact(q, c, a), fact(q, b, a), fact(q, c, d)}, nil, facts{fact(p, a, b, c), fact(p, b, c, a), fact(p, c, a, b)}},
		{"what is left hangs on what was chosen", clause(atom(p, X), so(atom(q, X, Y)), so(atom(r, Y, Z)), so(atom(4, Z))), facts{fact(q, a, 1), fact(q, b, 2), fact(q, c, 1), fact(q, c, 2), fact(r, 1, 5), fact(r, 2, 6), fact(4, 6)}, nil, facts{fact(p, b), fact(p, c)}},
	} {
		headsAre(t, e.what, e.c, e.all, e.no, e.want)
		asTold(t, e.what, toldHeads, e.c, e.all, e.all, e.no)
		asTold(t, e.what, wentHeads, e.c, e.all, e.all, e.no)
	}
}

func TestFewNews(t *testing.T) {
	step := clause(atom(p, X, Z), so(atom(q, X, Y)), so(atom(q, Y, Z)))
	chain := facts{fact(q, 1, 2), fact(q, 2, 3), fact(q, 3, 4), fact(q, 4, 5)}
	both := clause(atom(p, X), so(atom(q, X)), so(atom(r, X)))
	two := facts{fact(q, a), fact(q, b), fact(r, a), fact(r, b)}
	for _, e := range []struct {
		what                 string
		c                    api.Clause
		all, fresh, no, want facts
	}{
		{"none fresh", step, chain, nil, nil, nil},
		{"none fresh, of an empty set", step, chain, facts{}, nil, nil},
		{"all fresh", step, chain, chain, nil, facts{fact(p, 1, 3), fact(p, 2, 4), fact(p, 3, 5)}},
		{"the first", step, chain, chain[:1], nil, facts{fact(p, 1, 3)}},
		{"one between", step, chain, chain[1:2], nil, facts{fact(p, 1, 3), fact(p, 2, 4)}},
		{"the last", step, chain, chain[3:], nil, facts{fact(p, 3, 5)}},
		{"the ends", step, chain, facts{fact(q, 4, 5), fact(q, 1, 2)}, nil, facts{fact(p, 1, 3), fact(p, 3, 5)}},
		{"fresh, but none of facts", step, chain[1:], chain[:1], nil, nil},
		{"all fresh, but none of facts", step, nil, chain, nil, nil},
		{"some are none of facts", step, chain[:3], chain[1:], nil, facts{fact(p, 1, 3), fact(p, 2, 4)}},
		{"fresh ones that fit nothing", step, chain, facts{fact(q, 7, 8), fact(q, 5, 1), fact(r, 1, 2), fact(q, 1)}, nil, nil},
		{"by the first literal", both, two, two[:1], nil, facts{fact(p, a)}},
		{"by the second literal", both, two, two[3:], nil, facts{fact(p, b)}},
		{"by either one", both, two, facts{fact(q, a), fact(r, b)}, nil, facts{fact(p, a), fact(p, b)}},
		{"by both at once", both, two, facts{fact(q, a), fact(r, a)}, nil, facts{fact(p, a)}},
		{"both fresh, one none of facts", both, two[:3], facts{fact(q, b), fact(r, b)}, nil, nil},
		{"a literal twice", clause(atom(p, X), so(atom(q, X)), so(atom(q, X))), two, two[:1], nil, facts{fact(p, a)}},
		{"no body", clause(atom(p, s(a))), chain, chain, nil, nil},
		{"no body, and it is fresh", clause(atom(p, s(a))), facts{fact(p, a)}, facts{fact(p, a)}, nil, nil},
		{"a body of Nots", clause(atom(p), not(atom(q)), not(atom(r))), two, two, nil, nil},
		{"what is not so is fresh", clause(atom(p), so(atom(q)), not(atom(r))), facts{fact(q)}, facts{fact(r)}, nil, nil},
		{"what is not so is fresh, and what is so", clause(atom(p), so(atom(q)), not(atom(r))), facts{fact(q), fact(r)}, facts{fact(q), fact(r)}, nil, facts{fact(p)}},
		{"a Not of symbols", clause(atom(p), so(atom(q)), not(atom(r))), facts{fact(q)}, facts{fact(q)}, facts{fact(r)}, nil},
		{"a Not of a fresh one", clause(atom(p, X), so(atom(q, X)), not(atom(r, X))), two, two, facts{fact(r, a)}, facts{fact(p, b)}},
		{"fresh is not no", clause(atom(p, X), so(atom(q, X)), not(atom(q, X))), two, two[:1], nil, facts{fact(p, a)}},
		{"it is there, and found again", clause(atom(p, X), so(atom(q, X))), append(two, fact(p, a)), two, nil, facts{fact(p, a), fact(p, b)}},
		{"a head by a fresh choice and by another one", clause(atom(p, X), so(atom(q, X, Y))), facts{fact(q, a, b), fact(q, a, c), fact(q, b, c)}, facts{fact(q, a, c)}, nil, facts{fact(p, a)}},
		{"no Args", clause(atom(p), so(atom(q)), so(atom(r, X))), append(two, fact(q)), facts{fact(q)}, nil, facts{fact(p)}},
		{"symbols alone", clause(atom(p, s(c)), so(atom(q, s(a))), so(atom(q, s(b)))), two, facts{fact(q, b)}, nil, facts{fact(p, c)}},
		{"something that hangs on nothing", clause(atom(p, X), so(atom(q, X)), so(atom(r, Y))), two, facts{fact(r, b)}, nil, facts{fact(p, a), fact(p, b)}},
		{"0 is a symbol as others", step, facts{fact(q, 0, 0)}, facts{fact(q, 0, 0)}, nil, facts{fact(p, 0, 0)}},
	} {
		newsAre(t, e.what, e.c, e.all, e.fresh, e.no, e.want)
		asTold(t, e.what, toldHeads, e.c, e.all, e.fresh, e.no)
		asTold(t, e.what, wentHeads, e.c, e.all, e.fresh, e.no)
	}
}

// largest is a clause at all of its limits: 8 literals of 6 Args, 16 variables, each fact that it finds being one of 8.
func largest() (api.Clause, facts) {
	c, all := clause(atom(99, x(15), x(0), x(7), x(15), x(8), s(math.MaxUint32))), facts(nil)
	for i := range uint32(8) {
		c.Body = append(c.Body, so(atom(i, x(2*i), s(i), x((2*i+1)%16), x((2*i+2)%16), x(2*i), s(math.MaxUint32))))
		all = append(all, fact(i, 100+2*i, i, 100+(2*i+1)%16, 100+(2*i+2)%16, 100+2*i, math.MaxUint32))
		all = append(all, fact(i, 100+2*i, i, 100+(2*i+1)%16, 100+(2*i+2)%16, 101+2*i, math.MaxUint32))
	}
	return c, all
}

// R7: a clause at all limits is gone through, and of one beyond one of them there are no heads.
func TestTheLargestClause(t *testing.T) {
	rule, all := largest()
	want := facts{fact(99, 115, 100, 107, 115, 108, math.MaxUint32)}
	headsAre(t, "the largest", rule, all, nil, want)
	for i := range all {
		news := want
		if i%2 == 1 {
			news = nil
		}
		newsAre(t, "the largest", rule, all, all[i:i+1], nil, news)
		headsAre(t, "the largest, one fact less", rule, slices.Delete(slices.Clone(all), i, i+1), nil, want[:1-len(news)])
	}
	if api.MaxArity != 6 || api.MaxBody != 8 || api.MaxVars != 16 {
		t.Error("the test itself is wrong: its limits are others")
	}
	nots, no := clause(atom(99)), facts{}
	for i := range uint32(8) {
		f := fact(i, 1, 2, 3, 4, 5, i)
		nots.Body = append(nots.Body, not(atom(i, s(1), s(2), s(3), s(4), s(5), s(i))))
		no = append(no, fact(i, 1, 2, 3, 4, 5, i+1), fact(i, i+1, 2, 3, 4, 5, i))
		headsAre(t, "some that are not", nots, all, no[:len(no)-1], facts{fact(99)})
		headsAre(t, "some that are not, one is one", nots, all, append(no[:len(no)-1:len(no)-1], f), nil)
		no = no[:len(no)-1]
	}
}

// Of what safe does not take there are no heads, whatever the facts are.
func TestClausesThatAreNotRight(t *testing.T) {
	long := func(pred uint32, n int) api.Atom { return atom(pred, make([]api.Term, n)...) }
	longFact := func(pred uint32, n int) api.Fact { return fact(pred, make([]uint32, n)...) }
	all := facts{fact(q), fact(q, a), fact(q, a, b), longFact(q, 6), longFact(q, 7), fact(r, a), fact(p, a), fact(p)}
	nine := clause(atom(9), slices.Repeat([]api.Lit{so(atom(q, s(a)))}, 9)...)
	for _, e := range []struct {
		what string
		c    api.Clause
		e    api.Errno
	}{
		{"seven Args", clause(long(p, 7)), api.ErrForm},
		{"seven Args, in the body", clause(atom(p), so(long(q, 7))), api.ErrForm},
		{"seven Args that are not so", clause(atom(p), so(atom(q)), not(long(r, 7))), api.ErrForm},
		{"a variable that may not be", clause(atom(p, x(16)), so(atom(q, x(16)))), api.ErrForm},
		{"a variable far beyond", clause(atom(p, x(math.MaxUint32)), so(atom(q, x(math.MaxUint32)))), api.ErrForm},
		{"a variable that is 0 of 32 bits more", clause(atom(p, x(0)), so(atom(q, x(32)))), api.ErrForm},
		{"a body of nine", nine, api.ErrForm},
		{"a head that nothing holds", clause(atom(p, X)), api.ErrSafe},
		{"a head that nothing holds, in part", clause(atom(9, X, Y), so(atom(q, X))), api.ErrSafe},
		{"a head that a Not alone has", clause(atom(p, X), so(atom(q, s(a))), not(atom(r, X))), api.ErrSafe},
		{"a Not that nothing holds", clause(atom(p), so(atom(q)), not(atom(r, X))), api.ErrSafe},
		{"two lengths", clause(atom(9), so(atom(q, X)), so(atom(q, X, Y))), api.ErrArity},
		{"two lengths, of the head", clause(atom(p), so(atom(p, X))), api.ErrArity},
		{"two lengths, one that is not so", clause(atom(9), so(atom(q, X)), not(atom(q))), api.ErrArity},
	} {
		if _, got := safe.Right([]api.Clause{e.c}); got != e.e {
			t.Fatalf("the test itself is wrong: %s: %v, not %v", e.what, got, e.e)
		}
		headsAre(t, e.what, e.c, all, nil, nil)
		headsAre(t, e.what, e.c, nil, all, nil)
		newsAre(t, e.what, e.c, all, all, nil, nil)
		newsAre(t, e.what, e.c, all, all, all, nil)
	}
	headsAre(t, "eight", clause(atom(9), nine.Body[:8]...), all, nil, facts{fact(9)})
	headsAre(t, "six Args", clause(long(9, 6), so(long(q, 6))), all, nil, facts{longFact(9, 6)})
	headsAre(t, "the last variable", clause(atom(p, x(15)), so(atom(q, x(15)))), all, nil, facts{fact(p, a)})
}

// No set is an empty one, at each place.
func TestNoSets(t *testing.T) {
	held, free, ground := clause(atom(p, X), so(atom(q, X)), not(atom(r, X))), clause(atom(p), not(atom(q))), clause(atom(p, s(a)))
	one := rel.Of(facts{fact(q, a)})
	for _, none := range []*rel.Rel{nil, rel.New(), {}} {
		for _, e := range []struct {
			what string
			got  facts
			want facts
		}{
			{"Heads of no facts", join.Heads(held, none, none), nil},
			{"Heads of no facts and others", join.Heads(held, none, one), nil},
			{"Heads of facts and no others", join.Heads(held, one, none), facts{fact(p, a)}},
			{"Heads of what is not so", join.Heads(free, none, none), facts{fact(p)}},
			{"Heads of no body", join.Heads(ground, none, none), facts{fact(p, a)}},
			{"News of nothing", join.News(held, none, none, none), nil},
			{"News of no facts", join.News(held, none, one, none), nil},
			{"News of nothing fresh", join.News(held, one, none, none), nil},
			{"News of no others", join.News(held, one, one, none), facts{fact(p, a)}},
			{"News of what is not so", join.News(free, none, none, none), nil},
			{"News of no body", join.News(ground, none, none, none), nil},
		} {
			if !alike(e.got, e.want) {
				t.Errorf("P13.1, P13.2: %s: %v, not %v", e.what, e.got, e.want)
			}
		}
	}
}

// over are all lists of the things, of so many at most.
func over[T any](things []T, most int) [][]T {
	all := [][]T{nil}
	for from, n := 0, 0; n < most; n++ {
		to := len(all)
		for _, l := range all[from:to] {
			for _, t := range things {
				all = append(all, append(slices.Clone(l), t))
			}
		}
		from = to
	}
	return all
}

// subsets are all of a list's.
func subsets(l facts) (all []facts) {
	for bits := range 1 << len(l) {
		some := facts{}
		for i, f := range l {
			if bits>>i&1 == 1 {
				some = append(some, f)
			}
		}
		all = append(all, some)
	}
	return all
}

// Each clause of up to two literals of few terms, of every few facts, every fresh ones and every others.
func TestEverySmallClause(t *testing.T) {
	terms := []api.Term{X, Y, s(0)}
	var lits []api.Lit
	for _, one := range terms {
		for _, two := range terms {
			lits = append(lits, so(atom(q, one, two)), not(atom(q, one, two)))
		}
		lits = append(lits, so(atom(r, one)), not(atom(r, one)))
	}
	var rules []api.Clause
	for _, body := range over(lits, 2) {
		for _, head := range []api.Atom{atom(p, X, Y), atom(p, Y), atom(p, s(1)), atom(r, X)} {
			if c := clause(head, body...); isRight(c) {
				rules = append(rules, c)
			}
		}
	}
	all := facts{fact(q, 0, 0), fact(q, 0, 1), fact(q, 1, 0), fact(r, 0), fact(r, 1)}
	g := rand.New(rand.NewSource(13))
	heads, news := 0, 0
	for _, c := range rules {
		for _, some := range subsets(all) {
			fresh, no := subsets(all)[g.Intn(32)], subsets(all)[g.Intn(32)]
			h, n := asTold(t, "a small one", toldHeads, c, some, fresh, no)
			heads, news = heads+h, news+n
		}
	}
	if len(rules) < 500 || heads < 10000 || news < 5000 {
		t.Errorf("the test itself is wrong: %d clauses, %d heads, %d news", len(rules), heads, news)
	}
}

// byChance is a clause that is mostly right, of so many variables, predicates from 1 on with as many Args as their number, and symbols from 0 on.
func byChance(g *rand.Rand, vars, preds, symbols, most int) api.Clause {
	term := func(of []api.Term) api.Term {
		if g.Intn(6) == 0 || len(of) == 0 {
			return s(uint32(g.Intn(symbols)))
		}
		return of[g.Intn(len(of))]
	}
	some := func(of []api.Term) api.Atom {
		a := atom(uint32(1 + g.Intn(preds)))
		for range a.Pred - 1 {
			a.Args = append(a.Args, term(of))
		}
		return a
	}
	var names, known []api.Term
	for _, n := range g.Perm(api.MaxVars)[:vars] {
		names = append(names, x(uint32(n)))
	}
	var c api.Clause
	for range g.Intn(most + 1) {
		c.Body = append(c.Body, so(some(names)))
	}
	for _, n := range varsOf(c) {
		known = append(known, x(n))
	}
	for range g.Intn(9 - len(c.Body)) {
		if g.Intn(2) == 0 {
			c.Body = append(c.Body, not(some(known)))
		}
	}
	if g.Intn(40) == 0 {
		known = names
	}
	c.Head = some(known)
	g.Shuffle(len(c.Body), func(i, k int) { c.Body[i], c.Body[k] = c.Body[k], c.Body[i] })
	return c
}

// someFacts are n of the predicates and symbols that byChance has, and some of other lengths.
func someFacts(g *rand.Rand, preds, symbols, n int) facts {
	l := facts{}
	for range n {
		f := fact(uint32(1 + g.Intn(preds)))
		for range f.Pred - 1 {
			f.Args = append(f.Args, uint32(g.Intn(symbols)))
		}
		if g.Intn(20) == 0 {
			f.Args = append(f.Args, 0)
		}
		l = append(l, f)
	}
	return l
}

// some is a part of a list.
func some(g *rand.Rand, l facts) facts {
	part, of := facts{}, 1+g.Intn(5)
	for _, f := range l {
		if g.Intn(of) == 0 {
			part = append(part, f)
		}
	}
	return part
}

// has: is all of one list in another one?
func has(all, l facts) bool {
	t := toldOf(all)
	return !slices.ContainsFunc(l, func(f api.Fact) bool { return !t.has(f) })
}

// follows holds what the document says to follow against calls with more facts, and more others.
func follows(t testing.TB, c api.Clause, all, fresh, no, more facts) {
	t.Helper()
	whole := slices.Concat(all, fresh)
	old, now := join.Heads(c, set(all), set(no)), join.Heads(c, set(whole), set(no))
	if !has(now, old) {
		t.Fatalf("P13.3: Heads of %v, of %s: %s; with %s: %s", c, short(all), short(old), short(fresh), short(now))
	}
	news := join.News(c, set(whole), set(fresh), set(no))
	if both := toldOf(slices.Concat(old, news)).list(); !alike(both, now) {
		t.Fatalf("P13.3: Heads of %v, of %s: %s; with %s: %s; News %s", c, short(all), short(old), short(fresh), short(now), short(news))
	}
	if fewer := join.Heads(c, set(whole), set(slices.Concat(no, more))); !has(now, fewer) {
		t.Fatalf("P13.3: Heads of %v, no %s: %s; with %s: %s", c, short(no), short(now), short(more), short(fewer))
	}
	if fewer := join.News(c, set(whole), set(fresh), set(slices.Concat(no, more))); !has(news, fewer) {
		t.Fatalf("P13.3: News of %v, no %s: %s; with %s: %s", c, short(no), short(news), short(more), short(fewer))
	}
	if more := join.News(c, set(whole), set(whole), set(no)); !has(more, news) {
		t.Fatalf("P13.2: News of %v, fresh %s: %s; all fresh: %s", c, short(fresh), short(news), short(more))
	}
}

// Clauses of few variables, held against all choices.
func TestManyByChance(t *testing.T) {
	g := rand.New(rand.NewSource(131))
	count := map[bool]int{}
	for range 12000 {
		preds, symbols := 1+g.Intn(5), 1+g.Intn(4)
		c := byChance(g, 1+g.Intn(5), preds, symbols, 1+g.Intn(5))
		all := someFacts(g, preds, symbols, g.Intn(25))
		fresh, no := append(some(g, all), someFacts(g, preds, symbols, 2)...), someFacts(g, preds, symbols, g.Intn(12))
		_, news := asTold(t, "by chance", toldHeads, c, all, fresh, no)
		follows(t, c, all, fresh, no, someFacts(g, preds, symbols, 5))
		count[news > 0]++
	}
	if count[true] < 2000 || count[false] < 2000 {
		t.Errorf("the test itself is wrong: %v", count)
	}
}

// Clauses of many variables and literals, held against who goes literal by literal.
func TestLargerOnesByChance(t *testing.T) {
	g := rand.New(rand.NewSource(132))
	count := map[bool]int{}
	for range 6000 {
		preds, symbols := 1+g.Intn(7), 1+g.Intn(6)
		c := byChance(g, 1+g.Intn(16), preds, symbols, 6)
		all := someFacts(g, preds, symbols, g.Intn(3*preds+4))
		fresh, no := append(some(g, all), someFacts(g, preds, symbols, 2)...), someFacts(g, preds, symbols, g.Intn(12))
		_, news := asTold(t, "by chance", wentHeads, c, all, fresh, no)
		follows(t, c, all, fresh, no, someFacts(g, preds, symbols, 5))
		count[news > 0]++
	}
	if count[true] < 1000 || count[false] < 1000 {
		t.Errorf("the test itself is wrong: %v", count)
	}
}

// joins are clauses whose literals are asked for again and again, by each of their places.
func joins() []api.Clause {
	xy, yx, yz, zy, zx := so(atom(3, X, Y)), so(atom(3, Y, X)), so(atom(3, Y, Z)), so(atom(3, Z, Y)), so(atom(3, Z, X))
	return []api.Clause{
		clause(atom(p, X, Z), xy, yz),
		clause(atom(p, X, Z), xy, zy),
		clause(atom(p, X, Z), yx, yz, not(atom(3, X, Z))),
		clause(atom(p, X), xy, yz, not(atom(3, Z, X))),
		clause(atom(p, X, Y), xy, yx),
		clause(atom(p, Z, Y, X), xy, yz, zx),
		clause(atom(p, X, W), xy, zy, so(atom(3, Z, W))),
		clause(atom(p, X), xy, zy, so(atom(3, Z, W)), not(atom(2, W)), not(atom(3, X, W))),
		clause(atom(p, X, Y, Z), so(atom(4, X, Y, Z)), zx),
		clause(atom(p, X, Z), so(atom(4, X, Y, W)), so(atom(4, W, Y, Z))),
		clause(atom(p, X, W), so(atom(2, Y)), so(atom(4, X, Z, Y)), so(atom(4, W, W, X))),
	}
}

// Many facts, some of them fresh.
func TestManyFacts(t *testing.T) {
	g := rand.New(rand.NewSource(133))
	for _, c := range joins() {
		heads, news := 0, 0
		for range 12 {
			symbols := 12 + g.Intn(20)
			all := someFacts(g, 4, symbols, 200+g.Intn(300))
			fresh, no := append(some(g, all), someFacts(g, 4, symbols, 2)...), someFacts(g, 4, symbols, 200)
			h, n := asTold(t, "many facts", wentHeads, c, all, fresh, no)
			follows(t, c, all, fresh, no, someFacts(g, 4, symbols, 5))
			heads, news = heads+h, news+n
		}
		if heads < 40 || news < 20 {
			t.Errorf("the test itself is wrong: %v: %d heads, %d news", c, heads, news)
		}
	}
}

// The order of a body says nothing, and so does a literal that stands there twice.
func TestTheOrderOfABodySaysNothing(t *testing.T) {
	g := rand.New(rand.NewSource(134))
	for range 2000 {
		c := byChance(g, 1+g.Intn(6), 4, 4, 4)
		all, no := someFacts(g, 4, 4, 20), someFacts(g, 4, 4, 6)
		fresh := some(g, all)
		heads, news := join.Heads(c, set(all), set(no)), join.News(c, set(all), set(fresh), set(no))
		for range 3 {
			m := clause(c.Head, slices.Clone(c.Body)...)
			if n := len(m.Body); n > 0 && n < api.MaxBody {
				m.Body = append(m.Body, m.Body[g.Intn(n)])
			}
			g.Shuffle(len(m.Body), func(i, k int) { m.Body[i], m.Body[k] = m.Body[k], m.Body[i] })
			headsAre(t, "in another order", m, all, no, heads)
			newsAre(t, "in another order", m, all, fresh, no, news)
		}
	}
}

// numbered are facts of one predicate, of each number below n.
func numbered(pred uint32, n uint32, of func(i uint32) []uint32) (l facts) {
	for i := range n {
		l = append(l, fact(pred, of(i)...))
	}
	return l
}

// R1: far more choices than can be gone through come to few heads, and the call ends.
func TestMoreChoicesThanCanBeGoneThrough(t *testing.T) {
	const n = 2000
	ones := numbered(q, n, func(i uint32) []uint32 { return []uint32{i} })
	heads := numbered(p, n, func(i uint32) []uint32 { return []uint32{i} })
	row := func(k int, l ...api.Lit) []api.Lit {
		for i := range k {
			l = append(l, so(atom(q, x(uint32(i)))))
		}
		return l
	}
	way := func(k uint32, l ...api.Lit) []api.Lit {
		for i := range k {
			l = append(l, so(atom(r, x(i), x(i+1))))
		}
		return l
	}
	star := facts{} // of each to one, and of that to each
	for i := range uint32(n / 2) {
		star = append(star, fact(r, 0, i), fact(r, i, 0))
	}
	starHeads := numbered(p, n/2, func(i uint32) []uint32 { return []uint32{i} })
	wide := append(slices.Clone(ones), numbered(4, n, func(i uint32) []uint32 { return []uint32{i, i, i, i, i, i} })...)
	apart := slices.Concat(ones, numbered(6, n+1, func(i uint32) []uint32 { return []uint32{i} }), numbered(7, n+1, func(i uint32) []uint32 { return []uint32{n + 1 + i} }))
	for _, e := range []struct {
		what          string
		c             api.Clause
		all, no, want facts
	}{
		{"eight literals of nothing together", clause(atom(p, x(0)), row(8)...), ones, nil, heads},
		{"the last one in the head", clause(atom(p, x(7)), row(8)...), ones, nil, heads},
		{"none in the head", clause(atom(p), row(8)...), ones, nil, facts{fact(p)}},
		{"the last one is none", clause(atom(p), row(7, so(atom(5)))...), ones, nil, nil},
		{"the last one is none, and has a variable", clause(atom(p, x(0), x(1), x(2), x(3)), row(7, so(atom(5, x(9))))...), ones, nil, nil},
		{"two that do not come together", clause(atom(p, x(0), x(1), x(2), x(3)), row(6, so(atom(4, x(7), x(8), x(9), x(10), x(11), x(12))), so(atom(5, x(7))))...), append(wide, fact(5, n)), nil, nil},
		{"two that do not come together, behind many", clause(atom(p, x(0), x(1), x(2), x(3)), row(6, so(atom(6, x(7))), so(atom(7, x(7))))...), apart, nil, nil},
		{"one that is so and not so, behind many", clause(atom(p, x(0), x(1), x(2), x(3)), row(6, so(atom(6, x(7))), not(atom(6, x(7))))...), apart, apart, nil},
		{"a Not is one", clause(atom(p), row(7, not(atom(5)))...), ones, facts{fact(5)}, nil},
		{"a Not that has variables", clause(atom(p, x(0)), row(7, not(atom(5, x(5), x(6))))...), ones, facts{fact(5, 0, 0)}, heads},
		{"a Not that is all of some", clause(atom(p, x(0)), row(7, not(atom(q, x(6))))...), ones, ones, nil},
		{"one joins all", clause(atom(p, x(0)), row(6, so(atom(4, x(0), x(1), x(2), x(3), x(4), x(5))))...), wide, nil, heads},
		{"a way of eight through a star", clause(atom(p, x(0)), way(8)...), star, nil, starHeads},
		{"a way of eight, its end in the head", clause(atom(p, x(8)), way(8)...), star, nil, starHeads},
		{"a way of eight, its middle in the head", clause(atom(p, x(4)), way(8)...), star, nil, starHeads},
		{"a way of seven that does not end", clause(atom(p, x(0), x(7)), way(7, so(atom(5, x(7))))...), append(star, fact(5, n)), nil, nil},
		{"a way of eight round", clause(atom(p, x(0)), append(way(7), so(atom(r, x(7), x(0))))...), star, nil, starHeads},
	} {
		headsAre(t, e.what, e.c, e.all, e.no, e.want)
		newsAre(t, e.what+", all fresh", e.c, e.all, e.all, e.no, e.want)
	}
}

// Many heads, each once and in order, and as many of fresh facts.
func TestManyHeads(t *testing.T) {
	const n = 500
	all := append(numbered(q, n, func(i uint32) []uint32 { return []uint32{i * 7919 % n} }), numbered(r, n, func(i uint32) []uint32 { return []uint32{i} })...)
	var want facts
	for i := range uint32(n) {
		for k := range uint32(n) {
			want = append(want, fact(p, i, k, i))
		}
	}
	c := clause(atom(p, X, Y, X), so(atom(r, Y)), so(atom(q, X)))
	headsAre(t, "all with all", c, all, nil, want)
	newsAre(t, "all with all", c, all, all, nil, want)
	newsAre(t, "one with all", c, all, facts{fact(q, 7)}, nil, want[7*n:8*n])

	const many = 100000
	chain := numbered(q, many, func(i uint32) []uint32 { return []uint32{i, i + 1} })
	two := numbered(p, many-1, func(i uint32) []uint32 { return []uint32{i, i + 2} })
	same := numbered(p, many, func(i uint32) []uint32 { return []uint32{i, i} })
	headsAre(t, "a long chain", clause(atom(p, X, Z), so(atom(q, X, Y)), so(atom(q, Y, Z))), chain, nil, two)
	headsAre(t, "a long chain, by its ends", clause(atom(p, X, Z), so(atom(q, X, Y)), so(atom(q, Z, Y))), chain, nil, same)
	newsAre(t, "a long chain", clause(atom(p, X, Z), so(atom(q, X, Y)), so(atom(q, Y, Z))), chain, chain[5:7], nil, two[4:7])
}

// roomy is a clause with room behind the end of each list that it has.
func roomy(c api.Clause) api.Clause {
	spare := func(a api.Atom) api.Atom {
		return api.Atom{Pred: a.Pred, Args: append(slices.Clone(a.Args), x(9), s(99))[:len(a.Args)]}
	}
	l := clause(spare(c.Head))
	for _, b := range c.Body {
		l.Body = append(l.Body, api.Lit{Not: b.Not, A: spare(b.A)})
	}
	l.Body = append(l.Body, not(l.Head), not(atom(99)))[:len(c.Body)]
	return l
}

// text is all that a clause has, and what stands behind the ends of its lists.
func text(c api.Clause) string {
	var out strings.Builder
	fmt.Fprint(&out, c.Head.Args[:cap(c.Head.Args)], c.Body[:cap(c.Body)])
	for _, b := range c.Body {
		fmt.Fprint(&out, b.A.Args[:cap(b.A.Args)])
	}
	return out.String()
}

// R3: neither the clause nor a set is changed; R5: and each call is answered anew.
func TestWhatIsHandedInIsNotChanged(t *testing.T) {
	g := rand.New(rand.NewSource(135))
	for range 500 {
		c := roomy(byChance(g, 4, 4, 3, 4))
		all, no := someFacts(g, 4, 3, 20), someFacts(g, 4, 3, 6)
		fresh := append(some(g, all), someFacts(g, 4, 3, 2)...)
		sets := []*rel.Rel{rel.Of(all), rel.Of(fresh), rel.Of(no)}
		kept := text(c)
		heads, news := join.Heads(c, sets[0], sets[2]), join.News(c, sets[0], sets[1], sets[2])
		for range 3 {
			if h, n := join.Heads(c, sets[0], sets[2]), join.News(c, sets[0], sets[1], sets[2]); !alike(h, heads) || !alike(n, news) {
				t.Fatalf("R5: of %v: %v, %v, and again %v, %v", c, heads, news, h, n)
			}
		}
		if got := text(c); got != kept {
			t.Fatalf("R3: the clause is changed: %s, not %s", got, kept)
		}
		for i, l := range []facts{all, fresh, no} {
			if got := sets[i].List(); !alike(got, toldOf(l).list()) {
				t.Fatalf("R3: a set is changed: %v, not %v", got, l)
			}
		}
	}
}

// One set may be handed in at all places.
func TestOneSetAtAllPlaces(t *testing.T) {
	g := rand.New(rand.NewSource(136))
	for range 1000 {
		c := byChance(g, 4, 4, 3, 4)
		l := someFacts(g, 4, 3, 20)
		one, as := rel.Of(l), toldOf(l)
		if got, want := join.Heads(c, one, one), toldHeads(c, as, nil, as).list(); !alike(got, want) {
			t.Fatalf("P13.1: Heads of %v, one set %v: %v, not %v", c, l, got, want)
		}
		if got, want := join.News(c, one, one, one), toldHeads(c, as, as, as).list(); !alike(got, want) {
			t.Fatalf("P13.2: News of %v, one set %v: %v, not %v", c, l, got, want)
		}
	}
}

// R3: each list that is answered is its own, and nothing of what was handed in is kept.
func TestWhatIsAnsweredIsNewMemory(t *testing.T) {
	rule := clause(atom(p, X, s(c), Y), so(atom(q, X, Y)), not(atom(r, Y)))
	all, no := rel.Of(facts{fact(q, a, b), fact(q, b, c), fact(q, c, d)}), rel.Of(facts{fact(r, d)})
	want := facts{fact(p, a, c, b), fact(p, b, c, c)}
	ground := clause(atom(p, s(a), s(b)))
	call := map[string]func() facts{
		"Heads": func() facts { return join.Heads(rule, all, no) },
		"News":  func() facts { return join.News(rule, all, all, no) },
	}
	for what, of := range call {
		l, m := of(), of()
		for _, f := range l {
			_ = append(f.Args, 98, 97, 96) // the room behind one list must not be a part of another one
		}
		if !alike(l, want) {
			t.Errorf("R3: %s: two lists hang together: %v", what, l)
		}
		for _, f := range m {
			clear(f.Args[:cap(f.Args)])
		}
		clear(m[:cap(m)])
		if n := of(); !alike(l, want) || !alike(n, want) {
			t.Errorf("R3: %s: two answers hang together, or with a set: %v, %v", what, l, n)
		}
	}
	l, one := join.Heads(rule, all, no), join.Heads(ground, nil, nil)
	clear(rule.Head.Args)
	clear(rule.Body)
	clear(ground.Head.Args)
	for _, f := range all.List() {
		all.Cut(f)
	}
	if !alike(l, want) || !alike(one, facts{fact(p, a, b)}) {
		t.Errorf("R3: what was handed in is kept: %v, %v", l, one)
	}
}

// R5: nothing of one call stays for the next one, and sets are asked as they stand.
func TestCallsDoNotHangTogether(t *testing.T) {
	rule := clause(atom(p, X), so(atom(q, X)), not(atom(r, X)))
	all, fresh, no := rel.New(), rel.New(), rel.New()
	for n := range uint32(20) {
		all.Put(fact(q, n))
		fresh.Put(fact(q, n))
		want := numbered(p, n+1, func(i uint32) []uint32 { return []uint32{i} })
		if got := join.Heads(rule, all, no); !alike(got, want) {
			t.Fatalf("R5: Heads of %d: %v", n, got)
		}
		if got := join.News(rule, all, fresh, no); !alike(got, want[n:]) {
			t.Fatalf("R5: News of %d: %v", n, got)
		}
		no.Put(fact(r, n))
		if got := join.Heads(rule, all, no); !alike(got, want[:n]) {
			t.Fatalf("R5: Heads of %d, and it is one: %v", n, got)
		}
		no.Cut(fact(r, n))
		fresh.Cut(fact(q, n))
	}
}

// R1: what is far too much ends too.
func TestVeryLargeOnes(t *testing.T) {
	const n = 1 << 20
	all := facts{fact(q), fact(p, make([]uint32, n)...), fact(q, a)}
	headsAre(t, "a very long head", clause(atom(p, make([]api.Term, n)...)), all, nil, nil)
	headsAre(t, "a very long body", clause(atom(p), make([]api.Lit, n)...), all, nil, nil)
	newsAre(t, "a very long atom", clause(atom(q), so(atom(p, make([]api.Term, n)...))), all, all, all, nil)
	headsAre(t, "a very long fact", clause(atom(r, X), so(atom(q, X)), not(atom(p, X))), all, all, facts{fact(r, a)})
	newsAre(t, "a very long fact", clause(atom(r, X), so(atom(p, X))), all, all, all, nil)
}

// saidBy is a clause and facts that bytes say.
func saidBy(b []byte) (c api.Clause, all, fresh, no facts) {
	take := func() int {
		if len(b) == 0 {
			return 0
		}
		n := b[0]
		b = b[1:]
		return int(n)
	}
	some := func() api.Atom {
		a := atom(uint32(take() % 4))
		for range a.Pred {
			n := take()
			a.Args = append(a.Args, api.Term{Var: n%4 > 0, N: uint32(n / 4 % 5)})
		}
		return a
	}
	c.Head = some()
	for range take() % 5 {
		c.Body = append(c.Body, api.Lit{Not: take()%3 == 0, A: some()})
	}
	for len(b) > 0 {
		n, f := take(), fact(0)
		f.Pred = uint32(n % 4)
		for range f.Pred {
			f.Args = append(f.Args, uint32(take()%3))
		}
		if n>>2&1 == 0 {
			all = append(all, f)
		}
		if n>>3&1 == 0 {
			fresh = append(fresh, f)
		}
		if n>>4&7 == 0 {
			no = append(no, f)
		}
	}
	return c, all, fresh, no
}

func TestManyBytesByChance(t *testing.T) {
	g := rand.New(rand.NewSource(137))
	found := 0
	for range 40000 {
		b := make([]byte, g.Intn(80))
		g.Read(b)
		c, all, fresh, no := saidBy(b)
		heads, _ := asTold(t, "as bytes say", toldHeads, c, all, fresh, no)
		if heads > 1 {
			found++
		}
	}
	if found < 200 {
		t.Errorf("the test itself is wrong: %d find more than one", found)
	}
}

func FuzzAsTold(f *testing.F) {
	f.Add([]byte{})
	f.Add([]byte{1, 1, 2, 1, 2, 1, 5, 0, 1, 5, 2, 1, 2, 2, 0, 0, 17, 2})
	f.Add([]byte{2, 1, 9, 2, 1, 2, 1, 5, 1, 2, 5, 9, 2, 0, 1, 2, 1, 2, 2, 2, 0})
	f.Fuzz(func(t *testing.T, b []byte) {
		c, all, fresh, no := saidBy(b)
		asTold(t, "as bytes say", toldHeads, c, all, fresh, no)
		follows(t, c, all, fresh, no, fresh)
	})
}
