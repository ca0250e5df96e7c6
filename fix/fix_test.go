package fix_test

import (
	"fmt"
	"maps"
	"math"
	"math/rand"
	"slices"
	"strings"
	"testing"

	"bailey/api"
	"bailey/atoms"
	"bailey/fix"
	"bailey/join"
	"bailey/parse"
	"bailey/rel"
	"bailey/safe"
	"bailey/syms"
)

// names has the numbers of the names in this test's texts.
var names = syms.New()

// program is what a text says.
func program(text string) (l []api.Clause) {
	rules, at, e := parse.Parse(names, text)
	if e != api.OK {
		panic("the test itself is wrong: " + text[at:])
	}
	for _, r := range rules {
		c := api.Clause{Head: r.Head.A}
		for _, b := range r.Body {
			c.Body = append(c.Body, api.Lit{Not: b.Not, A: b.S.A})
		}
		l = append(l, c)
	}
	return l
}

// facts are what a text says.
func facts(text string) (l []api.Fact) {
	for _, c := range program(text) {
		f, is := atoms.Of(c.Head)
		if !is || len(c.Body) > 0 {
			panic("the test itself is wrong: " + text)
		}
		l = append(l, f)
	}
	return l
}

// each is a text for each number from 0 on below n: the text with the number, and those above it, in the places of its %d.
func each(n int, form string) string {
	var b strings.Builder
	for i := range n {
		var up []any
		for k := range strings.Count(form, "%d") {
			up = append(up, i+k)
		}
		fmt.Fprintf(&b, form, up...)
	}
	return b.String()
}

// key is a fact as a map's name.
type key struct {
	pred uint32
	n    int
	args [api.MaxArity]uint32
}

func keyOf(f api.Fact) key {
	k := key{pred: f.Pred, n: len(f.Args)}
	copy(k.args[:], f.Args)
	return k
}

// ground is a clause by one choice: if all of the body are there, the head must be.
type ground struct {
	head key
	body []key
}

// symbols are all that stand in clauses and facts.
func symbols(l []api.Clause, base []api.Fact) []uint32 {
	are := map[uint32]bool{}
	note := func(a api.Atom) {
		for _, t := range a.Args {
			if !t.Var {
				are[t.N] = true
			}
		}
	}
	for _, c := range l {
		note(c.Head)
		for _, b := range c.Body {
			note(b.A)
		}
	}
	for _, f := range base {
		note(atoms.Lift(f))
	}
	return slices.Sorted(maps.Keys(are))
}

// grounds are all clauses by all choices of the symbols that there are. What is Not is held against the base at once.
func grounds(l []api.Clause, base []api.Fact) (all []ground) {
	no := map[key]bool{}
	for _, f := range base {
		no[keyOf(f)] = true
	}
	of := symbols(l, base)
	for _, c := range l {
		vars := map[uint32]bool{}
		for _, b := range c.Body {
			for _, n := range atoms.Vars(b.A) {
				vars[n] = true
			}
		}
		choose(slices.Collect(maps.Keys(vars)), of, map[uint32]uint32{}, func(by map[uint32]uint32) {
			if g, fits := becomes(c, by, no); fits {
				all = append(all, g)
			}
		})
	}
	return all
}

// choose tells all choices for variables.
func choose(vars, of []uint32, by map[uint32]uint32, told func(by map[uint32]uint32)) {
	if len(vars) == 0 {
		told(by)
		return
	}
	for _, n := range of {
		by[vars[0]] = n
		choose(vars[1:], of, by, told)
	}
}

// becomes: what a clause becomes by a choice; and is what is Not none of no?
func becomes(c api.Clause, by map[uint32]uint32, no map[key]bool) (g ground, fits bool) {
	one := func(a api.Atom) key {
		k := key{pred: a.Pred, n: len(a.Args)}
		for i, t := range a.Args {
			k.args[i] = t.N
			if t.Var {
				k.args[i] = by[t.N]
			}
		}
		return k
	}
	for _, b := range c.Body {
		switch {
		case !b.Not:
			g.body = append(g.body, one(b.A))
		case no[one(b.A)]:
			return g, false
		}
	}
	g.head = one(c.Head)
	return g, true
}

// goesBeyond: does a clause ask for more than there is?
func (g ground) goesBeyond(there map[key]bool) bool {
	return !there[g.head] && !slices.ContainsFunc(g.body, func(k key) bool { return !there[k] })
}

// set is one of keys.
func set(l []api.Fact) map[key]bool {
	s := map[key]bool{}
	for _, f := range l {
		s[keyOf(f)] = true
	}
	return s
}

// told is what the document tells of clauses that may be: more and more, until nothing is asked for.
func told(l []api.Clause, base []api.Fact) map[key]bool {
	there, all := set(base), grounds(l, base)
	for again := true; again; {
		again = false
		for _, g := range all {
			if g.goesBeyond(there) {
				there[g.head], again = true, true
			}
		}
	}
	return there
}

// tried is the same, by the words alone: of all facts that could be there, those that are in all that are closed and have the base. (False, if there are too many to try.)
func tried(l []api.Clause, base []api.Fact) (least map[key]bool, is bool) {
	all, could := grounds(l, base), map[key]bool{}
	for _, g := range all {
		could[g.head] = true
	}
	there := set(base)
	maps.DeleteFunc(could, func(k key, _ bool) bool { return there[k] })
	heads := slices.Collect(maps.Keys(could))
	if len(heads) > 7 {
		return nil, false
	}
	for bits := range 1 << len(heads) {
		there := maps.Clone(there)
		for i, k := range heads {
			if bits>>i&1 == 1 {
				there[k] = true
			}
		}
		if slices.ContainsFunc(all, func(g ground) bool { return g.goesBeyond(there) }) {
			continue
		}
		if least == nil {
			least = there
		}
		maps.DeleteFunc(least, func(k key, _ bool) bool { return !there[k] })
	}
	return least, true
}

// grown is the same for what has too many choices: all heads of all clauses, again and again.
func grown(l []api.Clause, base []api.Fact) map[key]bool {
	all, no := rel.Of(base), rel.Of(base)
	for n := -1; n < all.Len(); {
		n = all.Len()
		for _, c := range l {
			all = rel.Of(append(all.List(), join.Heads(c, all, no)...))
		}
	}
	return set(all.List())
}

// may: do clauses have what the document asks for?
func may(l []api.Clause) bool {
	_, e := safe.Right(l)
	return e == api.OK && !slices.ContainsFunc(l, func(c api.Clause) bool {
		return slices.ContainsFunc(c.Body, func(b api.Lit) bool {
			return b.Not && slices.ContainsFunc(l, func(d api.Clause) bool { return d.Head.Pred == b.A.Pred })
		})
	})
}

// short is what a test says of what it handed in.
func short(v any) string {
	text := fmt.Sprint(v)
	return text[:min(len(text), 400)]
}

// refuses says that Least has an error, and nothing else.
func refuses(t testing.TB, what string, l []api.Clause, base *rel.Rel, most int, e api.Errno) {
	t.Helper()
	if all, rounds, got := fix.Least(l, base, most); got != e || all != nil || rounds != 0 {
		t.Fatalf("P14.1, R2: %s: Least of %s, base %s, most %d: %v, %d, %v, not nil, 0, %v", what, short(l), short(base.List()), most, all, rounds, got, e)
	}
}

// answers says that Least has facts in their order, in few enough rounds.
func answers(t testing.TB, what string, l []api.Clause, base *rel.Rel, most int, want map[key]bool) *rel.Rel {
	t.Helper()
	all, rounds, e := fix.Least(l, base, most)
	if e != api.OK || all == nil {
		t.Fatalf("P14.1: %s: Least of %s, base %s, most %d: %v, %v", what, short(l), short(base.List()), most, all, e)
	}
	if list := all.List(); len(list) != len(want) || !maps.Equal(set(list), want) || !slices.IsSortedFunc(list, atoms.Compare) {
		t.Fatalf("P14.1: %s: Least of %s, base %s: %s, not %s", what, short(l), short(base.List()), short(list), short(want))
	}
	if beyond := len(want) - base.Len(); rounds < 1 || rounds > beyond+1 {
		t.Fatalf("P14.1: %s: Least of %s, base %s: %d rounds for %d facts", what, short(l), short(base.List()), rounds, beyond)
	}
	return all
}

// asTold holds Least against what it should have, for each most that could matter.
func asTold(t testing.TB, what string, l []api.Clause, facts []api.Fact, want map[key]bool) {
	t.Helper()
	base, n := rel.Of(facts), len(want)
	for _, most := range []int{n, n + 1, 2*n + 1, math.MaxInt} {
		answers(t, what, l, base, most, want)
	}
	for _, most := range []int{n - 1, n / 2, base.Len(), base.Len() - 1, base.Len() / 2, 0} {
		if most >= 0 && most < n {
			refuses(t, what, l, base, most, api.ErrMany)
		}
	}
	for _, most := range []int{-1, -n - 1, math.MinInt} {
		refuses(t, what, l, base, most, api.ErrArg)
	}
}

func TestTheDocumentsExample(t *testing.T) {
	l, base := program("p(X, Z) :- p(X, Y), p(Y, Z)."), rel.Of(facts("p(a, b). p(b, c). p(c, d)."))
	want := set(facts("p(a, b). p(b, c). p(c, d). p(a, c). p(b, d). p(a, d)."))
	answers(t, "the example", l, base, 6, want)
	refuses(t, "the example, five at most", l, base, 5, api.ErrMany)
}

func TestFewFacts(t *testing.T) {
	for _, e := range []struct{ what, program, base, beyond string }{
		{"nothing", "", "", ""},
		{"no clauses", "", "p(a). q.", ""},
		{"no base", "p(X) :- q(X).", "", ""},
		{"no body", "p(a).", "", "p(a)."},
		{"no body, twice", "p(a). p(a). p(b).", "", "p(a). p(b)."},
		{"no body, and it is there", "p(a).", "p(a).", ""},
		{"no Args", "p :- q. r :- p.", "q.", "p. r."},
		{"one step", "p(X) :- q(X).", "q(a). q(b). r(c).", "p(a). p(b)."},
		{"one step, and it is there", "p(X) :- q(X).", "q(a). q(b). p(b).", "p(a)."},
		{"a step back", "p(X) :- q(X). q(X) :- p(X).", "q(a). p(b).", "p(a). q(b)."},
		{"nothing comes of itself", "p(X) :- p(X). q(a) :- r(a). r(a) :- q(a).", "p(b).", ""},
		{"the last clause first", "d(X) :- c(X). c(X) :- b(X). b(X) :- a(X).", "a(e).", "b(e). c(e). d(e)."},
		{"the first clause first", "b(X) :- a(X). c(X) :- b(X). d(X) :- c(X).", "a(e).", "b(e). c(e). d(e)."},
		{"one clause goes round", "p(Y, X) :- p(X, Y).", "p(a, b). p(c, c).", "p(b, a)."},
		{"one clause turns", "p(Y, Z, X) :- p(X, Y, Z).", "p(a, b, c).", "p(b, c, a). p(c, a, b)."},
		{"ways from the left", "w(X, Y) :- e(X, Y). w(X, Z) :- w(X, Y), e(Y, Z).", "e(a, b). e(b, c). e(c, a).", "w(a, a). w(a, b). w(a, c). w(b, a). w(b, b). w(b, c). w(c, a). w(c, b). w(c, c)."},
		{"ways from the right", "w(X, Y) :- e(X, Y). w(X, Z) :- e(X, Y), w(Y, Z).", "e(a, b). e(b, c). e(b, d).", "w(a, b). w(b, c). w(b, d). w(a, c). w(a, d)."},
		{"two that come of each other", "even(Y) :- odd(X), next(X, Y). odd(Y) :- even(X), next(X, Y).", "even(0). next(0, 1). next(1, 2). next(2, 3). next(4, 5).", "odd(1). even(2). odd(3)."},
		{"of one age", "s(X, X) :- x(X). s(X, Y) :- e(V, X), s(V, W), e(W, Y).", "x(r). e(r, a). e(r, b). e(a, c). e(b, d). e(c, f).", "s(r, r). s(a, a). s(a, b). s(b, a). s(b, b). s(c, c). s(c, d). s(d, c). s(d, d). s(f, f)."},
		{"both literals fresh at once", "p(X) :- q(X). r(X) :- q(X). s(X) :- p(X), r(X).", "q(a).", "p(a). r(a). s(a)."},
		{"the fresh one comes late", "p(X) :- q(X), r. r :- s. s :- u. u :- v.", "q(a). q(b). v.", "u. s. r. p(a). p(b)."},
		{"what is fresh joins what is old", "p(X, Y) :- q(X), q(Y). q(X) :- r(X).", "q(a). r(b).", "p(a, a). q(b). p(a, b). p(b, a). p(b, b)."},
		{"what nothing comes of", "p(X) :- q(X), r(X).", "q(a). r(b).", ""},
		{"a symbol in the body", "p(X) :- q(X, a).", "q(b, a). q(c, d).", "p(b)."},
		{"a symbol in the head", "p(b, X) :- q(X). q(c) :- p(b, a).", "q(a).", "p(b, a). q(c). p(b, c)."},
		{"symbols that clauses alone have", "p(a) :- q(b). q(c) :- p(a). q(b).", "", "q(b). p(a). q(c)."},
		{"a variable twice", "p(X) :- q(X, X).", "q(a, b). q(b, b).", "p(b)."},
		{"not", "p(X) :- q(X), not r(X).", "q(a). q(b). r(b). r(c).", "p(a)."},
		{"not, of nothing", "p(X) :- q(X), not r(X).", "q(a).", "p(a)."},
		{"not alone", "p :- not q. r :- not s.", "s.", "p."},
		{"not, of what comes", "p(X) :- q(X), not r(X). q(X) :- p(a), u(X).", "q(a). u(b). u(c). r(c).", "p(a). q(b). q(c). p(b)."},
		{"not, of two", "p(X, Y) :- q(X), q(Y), not r(X, Y).", "q(a). q(b). r(a, b).", "p(a, a). p(b, a). p(b, b)."},
		{"not, in each of two clauses", "p(X) :- q(X), not r(X). p(X) :- q(X), not s(X).", "q(a). q(b). q(c). r(a). r(b). s(b). s(c).", "p(a). p(c)."},
		{"not is what is so in another clause", "p(X) :- q(X), not r(X). s(X) :- r(X), not q(X).", "q(a). q(b). r(b). r(c).", "p(a). s(c)."},
		{"another length in the base", "p(X) :- q(X), not r(X).", "q(a). q. q(b, b). r(a, a). r. p(b, b). p.", "p(a)."},
	} {
		l, base, beyond := program(e.program), facts(e.base), facts(e.beyond)
		want := set(slices.Concat(base, beyond))
		if len(want) != len(base)+len(beyond) || !may(l) {
			t.Fatalf("the test itself is wrong: %s", e.what)
		}
		asTold(t, e.what, l, base, want)
		for _, as := range []map[key]bool{told(l, base), grown(l, base)} {
			if !maps.Equal(as, want) {
				t.Fatalf("the test itself is wrong: %s: %v, not %v", e.what, as, want)
			}
		}
	}
}

// Symbols, predicates and variables of all numbers are as others; the largest clauses are gone through.
func TestNumbersAtTheirEdges(t *testing.T) {
	const most = math.MaxUint32
	x := func(n uint32) api.Term { return api.Term{Var: true, N: n} }
	s := func(n uint32) api.Term { return api.Term{N: n} }
	at := func(pred uint32, l ...api.Term) api.Atom { return api.Atom{Pred: pred, Args: l} }
	fact := func(pred uint32, l ...uint32) api.Fact { return api.Fact{Pred: pred, Args: l} }
	l := []api.Clause{
		{Head: at(0, x(15), s(most)), Body: []api.Lit{{A: at(most, x(15))}}},
		{Head: at(most, x(0)), Body: []api.Lit{{A: at(0, s(0), x(0))}, {Not: true, A: at(1, x(0))}}},
	}
	base := []api.Fact{fact(most, 0), fact(most, 16)}
	asTold(t, "edges of numbers", l, base, set(append(base, fact(0, 0, most), fact(0, 16, most), fact(most, most), fact(0, most, most))))
	base = append(base, fact(1, most))
	asTold(t, "edges of numbers, and not", l, base, set(append(base, fact(0, 0, most), fact(0, 16, most))))

	var whole api.Clause // at all of its limits: 8 literals of 6 Args, 16 variables
	var chain []api.Fact
	for i := range uint32(8) {
		whole.Body = append(whole.Body, api.Lit{A: at(9, x(2*i), x(2*i+1), x((2*i+2)%16), s(i), s(most), s(0))})
		chain = append(chain, fact(9, 2*i, 2*i+1, (2*i+2)%16, i, most, 0))
	}
	whole.Head = at(9, x(15), x(14), x(13), x(0), x(1), x(2))
	last := fact(9, 15, 14, 13, 0, 1, 2)
	asTold(t, "the largest clause", []api.Clause{whole}, chain, set(append(chain, last)))
	for i := range chain {
		one := slices.Delete(slices.Clone(chain), i, i+1)
		asTold(t, "the largest clause, one fact less", []api.Clause{whole}, one, set(one))
	}
}

// What is longer than a clause's facts may be stands in a base as it is, and counts.
func TestLongFactsStay(t *testing.T) {
	q := facts("q(a).")[0]
	long := api.Fact{Pred: q.Pred, Args: make([]uint32, 1000)}
	l, base := program("p(X) :- q(X), not r(X)."), rel.Of([]api.Fact{q, long, {Pred: facts("r.")[0].Pred, Args: make([]uint32, 7)}})
	all, rounds, e := fix.Least(l, base, 4)
	if e != api.OK || rounds > 2 || all.Len() != 4 || !all.Has(long) || !all.Has(facts("p(a).")[0]) {
		t.Errorf("P14.1: long facts: %v, %d, %v", short(all), rounds, e)
	}
	refuses(t, "long facts", l, base, 3, api.ErrMany)
}

// ErrArg: what safe does not take, and what is Not and a head.
func TestWhatMayNotBe(t *testing.T) {
	long := api.Clause{Head: api.Atom{Pred: 1, Args: make([]api.Term, 7)}}
	nine := api.Clause{Head: api.Atom{Pred: 1}, Body: make([]api.Lit, 9)}
	far := api.Clause{Head: api.Atom{Pred: 1, Args: []api.Term{{Var: true, N: 16}}}, Body: []api.Lit{{A: api.Atom{Pred: 2, Args: []api.Term{{Var: true, N: 16}}}}}}
	for _, e := range []struct {
		what string
		l    []api.Clause
	}{
		{"a long head", []api.Clause{long}},
		{"a long body", []api.Clause{nine}},
		{"a variable that may not be", []api.Clause{far}},
		{"a head that nothing holds", program("p(X).")},
		{"a head that a Not alone has", program("p(X) :- q, not r(X).")},
		{"a Not that nothing holds", program("p :- q, not r(X).")},
		{"two lengths in one clause", program("p :- p(X).")},
		{"two lengths in two clauses", program("p :- q. r :- p(a).")},
		{"two lengths, of what is not so", program("p :- q. r :- s, not q(a).")},
		{"not itself", program("p :- not p.")},
		{"not itself, of another symbol", program("p(X) :- q(X), not p(a).")},
		{"not a head ahead", program("p :- q. r :- not p.")},
		{"not a head behind", program("r :- not p. p :- q.")},
		{"not a head, the last of many literals", program("p(a). r :- a, b, c, d, e, f, not g, not p(b).")},
		{"not each other", program("p :- not q. q :- not p.")},
	} {
		if may(e.l) {
			t.Fatalf("the test itself is wrong: %s", e.what)
		}
		base := rel.Of(facts("p. q. r. s. q(a). p(a)."))
		for _, most := range []int{-1, 0, 5, 6, math.MaxInt} {
			refuses(t, e.what, e.l, base, most, api.ErrArg)
			refuses(t, e.what, e.l, nil, most, api.ErrArg)
		}
		for at := range 4 {
			l := slices.Insert(program("w(X) :- x(X). y(X) :- w(X), not x(X). w(a)."), at, e.l...)
			refuses(t, e.what+", among others", l, base, 100, api.ErrArg)
		}
	}
}

// R7: as many clauses as may be are taken, one more is not.
func TestAsManyClausesAsMayBe(t *testing.T) {
	l := program(each(api.MaxClauses, "p%d(X) :- p%d(X). "))
	base := facts("p0(a). p400(b). p399(b).")
	asTold(t, "as many clauses as may be", l, base, set(append(base, facts(each(400, "p%d(b)."))...)))
	more := append(slices.Clip(l), program("p(a).")...)
	for _, most := range []int{0, 3, 2000} {
		refuses(t, "one clause more", more, rel.Of(base), most, api.ErrArg)
	}
}

// R7: a base of its own can be as many as may be, and is too much if it is one more, whatever clauses say.
func TestAsManyFactsAsMayBe(t *testing.T) {
	for _, text := range []string{"", "p(X) :- p(X).", "p(1) :- p(2), not q(3).", "p(X) :- p(X), p(Y)."} {
		l := program(text)
		for _, n := range []int{0, 1, 2, 3, 10, 500} {
			all := facts(each(n+1, "p(%d)."))
			if l != nil && n == 0 {
				continue
			}
			base, most := rel.Of(all[:n]), rel.Of(all)
			answers(t, "as many as may be", l, base, n, grown(l, all[:n]))
			refuses(t, "one more", l, most, n, api.ErrMany)
			answers(t, "one more may be", l, most, n+1, set(all))
			refuses(t, "less than none may be", l, base, -1, api.ErrArg)
		}
	}
	l, base := program("p(X) :- q(X). p(X) :- r(X). p(c)."), rel.Of(facts("q(a). r(a). q(b). p(b)."))
	answers(t, "what is found three times counts once", l, base, 6, set(facts("q(a). r(a). q(b). p(b). p(a). p(c).")))
	refuses(t, "one too many", l, base, 5, api.ErrMany)
}

// What many clauses find counts once, wherever the one stands that finds more.
func TestWhatManyClausesFindCountsOnce(t *testing.T) {
	base, same := facts("q(a). q(b). s(a)."), facts("p(a). p(b).")
	for _, n := range []int{1, 2, 10, 133, 199, 200, 201, 399} {
		l := slices.Repeat(program("p(X) :- q(X)."), n)
		asTold(t, "found many times", l, base, set(slices.Concat(base, same)))
		for _, at := range []int{0, n / 2, n} {
			more := slices.Insert(slices.Clone(l), at, program("r(X) :- q(X), not s(X).")...)
			asTold(t, "one more", more, base, set(slices.Concat(base, same, facts("r(b)."))))
		}
	}
	many := slices.Repeat(program("p(X, Y) :- q(X), q(Y)."), 60) // of which each finds all of them again
	answers(t, "many found many times", many, rel.Of(facts(each(100, "q(%d)."))), math.MaxInt, told(many[:1], facts(each(100, "q(%d)."))))
}

// saidBy are a program, mostly one that may be, and facts of so many symbols, that bytes say.
func saidBy(b []byte, symbols int) (l []api.Clause, base []api.Fact) {
	take := func() int {
		if len(b) == 0 {
			return 0
		}
		n := b[0]
		b = b[1:]
		return int(n)
	}
	length := []int{1, 2, 2, 0, 1, 2, 1}
	some := func(pred int) api.Atom {
		a := api.Atom{Pred: uint32(pred)}
		for range length[pred] {
			n := take()
			a.Args = append(a.Args, api.Term{Var: n%8 > 0, N: uint32(n / 8 % 3)})
		}
		if n := take(); n == 255 {
			a.Args = append(a.Args, api.Term{})
		}
		return a
	}
	for range take() % 6 {
		c := api.Clause{Head: some(take() % 4)}
		for range take() % 4 {
			switch n := take(); {
			case n == 255:
				c.Body = append(c.Body, api.Lit{Not: true, A: some(take() % 7)})
			case n%6 == 5:
				c.Body = append(c.Body, api.Lit{Not: true, A: some(4 + take()%3)})
			default:
				c.Body = append(c.Body, api.Lit{A: some(take() % 7)})
			}
		}
		if take() < 250 {
			c = held(c)
		}
		l = append(l, c)
	}
	for len(b) > 0 {
		f := api.Fact{Pred: uint32(take() % 10)}
		if f.Pred > 6 { // few of those that are heads
			f.Pred -= 3
		}
		for range length[f.Pred] {
			f.Args = append(f.Args, uint32(take()%symbols))
		}
		base = append(base, f)
	}
	return l, base
}

// held is a clause with a symbol in the place of each variable that nothing holds.
func held(c api.Clause) api.Clause {
	var is [3]bool
	for _, b := range c.Body {
		for _, n := range atoms.Vars(b.A) {
			is[n] = is[n] || !b.Not
		}
	}
	fill := func(a api.Atom) {
		for i, t := range a.Args {
			if t.Var && !is[t.N] {
				a.Args[i].Var = false
			}
		}
	}
	fill(c.Head)
	for _, b := range c.Body {
		fill(b.A)
	}
	return c
}

// follows says what the document says to follow.
func follows(t testing.TB, l []api.Clause, facts, more []api.Fact) {
	t.Helper()
	base := rel.Of(facts)
	all, _, e := fix.Least(l, base, math.MaxInt)
	if e != api.OK {
		t.Fatalf("P14.2: Least of %s, base %s: %v", short(l), short(facts), e)
	}
	if base.Less(all).Len() > 0 {
		t.Fatalf("P14.2: Least of %s, base %s: %s: not all of the base", short(l), short(facts), short(all.List()))
	}
	for _, c := range l {
		if heads := rel.Of(join.Heads(c, all, base)); heads.Less(all).Len() > 0 {
			t.Fatalf("P14.2: Least of %s, base %s: %s is not closed", short(l), short(facts), short(all.List()))
		}
	}
	for _, f := range all.Less(base).List() {
		all.Cut(f)
		if !slices.ContainsFunc(l, func(c api.Clause) bool { return rel.Of(join.Heads(c, all, base)).Has(f) }) {
			t.Fatalf("P14.2: Least of %s, base %s: %v is no head of others", short(l), short(facts), f)
		}
		all.Put(f)
	}
	if slices.ContainsFunc(l, func(c api.Clause) bool { return slices.ContainsFunc(c.Body, func(b api.Lit) bool { return b.Not }) }) {
		return
	}
	most, _, e := fix.Least(l, rel.Of(slices.Concat(facts, more)), math.MaxInt)
	if e != api.OK || all.Less(most).Len() > 0 {
		t.Fatalf("P14.2: Least of %s, base %s: %s; with %s: %s, %v", short(l), short(facts), short(all.List()), short(more), short(most.List()), e)
	}
}

// bytesAreTold holds Least of what bytes say against the document; how many facts are there beyond the base, and does any that could be closed tell the same? (-1: it may not be.)
func bytesAreTold(t testing.TB, b []byte, symbols int) (beyond int, byAll bool) {
	t.Helper()
	l, base := saidBy(b, symbols)
	if !may(l) {
		for _, most := range []int{-1, 0, len(base), math.MaxInt} {
			refuses(t, "as bytes say", l, rel.Of(base), most, api.ErrArg)
		}
		return -1, false
	}
	want := told(l, base)
	asTold(t, "as bytes say", l, base, want)
	follows(t, l, base[len(base)/2:], base[:len(base)/2])
	least, byAll := tried(l, base)
	if byAll && !maps.Equal(least, want) {
		t.Fatalf("the test itself is wrong: %v, base %v: %v, not %v", l, base, want, least)
	}
	return len(want) - len(set(base)), byAll
}

func TestManyBytesByChance(t *testing.T) {
	g := rand.New(rand.NewSource(141))
	count, all := map[int]int{}, 0
	for range 10000 {
		b := make([]byte, 20+g.Intn(140))
		g.Read(b)
		n, byAll := bytesAreTold(t, b, 4)
		count[min(n, 4)]++
		if byAll && n > 0 {
			all++
		}
	}
	if count[-1] < 300 || count[0] < 1000 || count[2] < 1000 || count[4] < 500 || all < 1000 {
		t.Errorf("the test itself is wrong: %v, and all that could be tried: %d", count, all)
	}
}

func TestMoreBytesByChance(t *testing.T) {
	g := rand.New(rand.NewSource(144))
	many := 0
	for range 1500 {
		b := make([]byte, 200+g.Intn(200))
		g.Read(b)
		b[0] = 4 + b[0]%2
		if n, _ := bytesAreTold(t, b, 9); n >= 20 {
			many++
		}
	}
	if many < 60 {
		t.Errorf("the test itself is wrong: %d have many more facts", many)
	}
}

// The order of clauses, and a clause that is there twice, say nothing.
func TestTheOrderOfClausesSaysNothing(t *testing.T) {
	g := rand.New(rand.NewSource(142))
	for range 1500 {
		b := make([]byte, 60+g.Intn(60))
		g.Read(b)
		l, facts := saidBy(b, 4)
		if !may(l) || len(l) == 0 {
			continue
		}
		base := rel.Of(facts)
		all, _, e := fix.Least(l, base, 30)
		for range 3 {
			l = append(l, l[g.Intn(len(l))])
			g.Shuffle(len(l), func(i, k int) { l[i], l[k] = l[k], l[i] })
			if e != api.OK {
				refuses(t, "in another order", l, base, 30, e)
			} else {
				answers(t, "in another order", l, base, 30, set(all.List()))
			}
		}
	}
}

// Ways of many rounds, each of which finds few facts or many.
func TestManyRounds(t *testing.T) {
	const n = 300
	steps := each(n, "e(%d, %d).")
	for _, e := range []struct{ what, program, base string }{
		{"one fact a round", "p(Y) :- p(X), e(X, Y).", "p(0). " + steps},
		{"one fact a round, backwards", "p(X) :- p(Y), e(X, Y).", "p(300). " + steps},
		{"one fact a round, but one", "p(Y) :- p(X), e(X, Y), not q(Y).", "p(0). q(200). " + steps},
		{"two from both ends", "p(Y) :- p(X), e(X, Y). p(X) :- p(Y), e(X, Y).", "p(100). p(250). " + steps},
		{"a round", "p(Y) :- p(X), e(X, Y).", "p(7). e(300, 0). " + steps},
		{"each two steps", "p(Z) :- p(X), e(X, Y), e(Y, Z).", "p(0). " + steps},
		{"by turns", "p(Y) :- q(X), e(X, Y). q(Y) :- p(X), e(X, Y).", "p(0). q(1). " + steps},
		{"many facts a round", "w(X, Z) :- e(X, Y), w(Y, Z). w(X, Y) :- e(X, Y).", each(60, "e(%d, %d).")},
		{"more and more a round", "e(X, Z) :- e(X, Y), e(Y, Z).", each(60, "e(%d, %d).")},
		{"all at once", "p(Y) :- e(X, Y). q(X) :- p(X), not r(X).", each(2000, "e(%d, %d).") + "r(1). r(1000). r(7)."},
	} {
		l, base := program(e.program), facts(e.base)
		want := grown(l, base)
		answers(t, e.what, l, rel.Of(base), len(want), want)
		refuses(t, e.what, l, rel.Of(base), len(want)-1, api.ErrMany)
		if len(want) == len(base) {
			t.Errorf("the test itself is wrong: %s", e.what)
		}
	}
	chain := program(each(399, "c%d(X) :- c%d(X), not no(X). "))
	slices.Reverse(chain)
	for range 2 {
		slices.Reverse(chain)
		answers(t, "a chain of clauses", chain, rel.Of(facts("c399(a). c399(b). no(b).")), 402, set(facts("no(b). c399(b). "+each(400, "c%d(a)."))))
		answers(t, "a chain of clauses, from its middle", chain, rel.Of(facts("c200(a).")), 201, set(facts(each(201, "c%d(a)."))))
	}
}

// R1: where far more heads come of clauses than may be, or than there is room for, that is told.
func TestFarMoreHeadsThanMayBe(t *testing.T) {
	const n = 1900
	ones := facts(each(n, "q(%d)."))
	for _, text := range []string{
		"p(A, B) :- q(A), q(B).",
		"p(A, B, C) :- q(A), q(B), q(C).",
		"p(A, B, C, D, E, F) :- q(A), q(B), q(C), q(D), q(E), q(F).",
		"p(A, a, B, A, C, B) :- q(A), q(B), q(C).",
		"p(A, B, C, D, E, F) :- q(A), q(B), q(C), q(D), q(E), q(F), not q(a), not r(A, F).",
		"p(A, B, C, D, E, F) :- r, q(A), q(B), q(C), q(D), q(E), q(F). r :- s. s :- q(1).",
		"q(A) :- r(A). r(A) :- s, q(A). s :- q(1). p(A, B, C, D, E, F) :- u(A, B, C, D, E, F). u(A, B, C, D, E, F) :- s, q(A), q(B), q(C), q(D), q(E), q(F), q(F).",
		"u(A, B) :- q(A), q(B), s(A). s(A) :- q(A). p(A, B, C, D) :- u(A, B), u(C, D).",
	} {
		l := program(text)
		if !may(l) {
			t.Fatalf("the test itself is wrong: %s", text)
		}
		for _, most := range []int{n, n + 2, 2000, 20000} {
			refuses(t, text, l, rel.Of(ones), most, api.ErrMany)
		}
		for _, few := range []int{13, 40} {
			refuses(t, text, l, rel.Of(ones[:few]), few*few-1, api.ErrMany)
		}
	}
	many := program("p(A, B) :- q(A), q(B).")
	want := set(ones[:600])
	for i := range 600 {
		for k := range 600 {
			want[keyOf(api.Fact{Pred: many[0].Head.Pred, Args: []uint32{ones[i].Args[0], ones[k].Args[0]}})] = true
		}
	}
	answers(t, "many that may be", many, rel.Of(ones[:600]), 360600, want)
	refuses(t, "many that may be, and one more", many, rel.Of(ones[:600]), 360599, api.ErrMany)
}

// Clauses that seem to have far more heads than they have.
func TestFewHeadsOfManyChoices(t *testing.T) {
	line, round := each(900, "e(%d, %d)."), each(40, "e(%d, %d).")+"e(40, 0)."
	program(line)
	one, _ := names.Name(1) // its number is a variable's, too
	for _, e := range []struct{ what, program, base string }{
		{"two steps", "p(X, Z) :- e(X, Y), e(Y, Z).", line},
		{"two steps back", "p(X, Z) :- e(Z, Y), e(Y, X).", line},
		{"two steps, turned", "p(X, Z) :- e(Y, Z), e(X, Y).", line},
		{"two steps, and not one", "p(X, Z) :- e(X, Y), e(Y, Z), not no(Y), not f(X, Z).", line + "no(7). no(800). f(3, 5). f(3, 6)."},
		{"two steps, and not one, ahead", "p(X, Z) :- not no(X), not f(X, Z), e(X, Y), not f(Z, X), e(Y, Z).", line + "no(7). no(800). f(3, 5). f(3, 6). f(12, 10)."},
		{"two steps, all fresh", "e(X, Y) :- f(X, Y). p(X, Z) :- e(X, Y), e(Y, Z), not f(Z, X).", strings.ReplaceAll(line, "e", "f")},
		{"two steps, the first fresh", "e(X, Y) :- f(X, Y). p(X, Z) :- e(X, Y), f(Y, Z).", strings.ReplaceAll(line, "e", "f")},
		{"two steps, the second fresh", "e(X, Y) :- f(X, Y). p(X, Z) :- f(X, Y), e(Y, Z).", strings.ReplaceAll(line, "e", "f")},
		{"two steps, a few fresh", "e(X, Y) :- f(X, Y). p(X, Z) :- e(X, Y), e(Y, Z).", line + "f(901, 0). f(5, 800). f(9, 10)."},
		{"what comes of them goes on", "p(X, Z) :- e(X, Y), e(Y, Z). r(X, Z) :- p(X, Y), p(Y, Z). s(X) :- r(X, Y), p(Y, X).", line + "e(5, 1)."},
		{"of no use", "p(X, Y) :- e(X, Y), e(Z, W), e(W, V).", line},
		{"of no use, ahead", "p(X, Y) :- e(Z, W), e(W, V), e(X, Y), e(X, Y).", line},
		{"a symbol", "p(X, Z, W) :- e(X, Y), e(Y, Z), e(W, 17).", line},
		{"a symbol of the number of a variable", "p(X, Z) :- f(X, " + one + "), e(X, Y), e(Y, Z).", line + each(900, "f(%d, "+one+").")},
		{"the head's variables twice", "p(X, Z, X, Z, a) :- e(X, Y), e(Y, Z), e(X, Y).", line},
		{"six in a row", "p(A, B, C, D, E, F) :- e(A, B), e(B, C), e(C, D), e(D, E), e(E, F).", round},
		{"six in a row, in another order", "p(F, B, A, D, C, E) :- e(D, E), e(A, B), e(E, F), e(C, D), e(B, C), not e(F, A).", round},
		{"six of nine in a row", "p(A, C, D, F, H, I) :- e(A, B), e(B, C), e(C, D), e(D, E), e(E, F), e(F, G), e(G, H), e(H, I).", round},
		{"six in a row, of fresh ones", "e(X, Y) :- f(X, Y). p(A, B, C, D, E, F) :- e(A, B), f(B, C), e(C, D), e(D, E), e(E, F), not f(A, F).", strings.ReplaceAll(round, "e", "f") + "f(7, 20)."},
		{"what tells no heads apart", "p(X, Y, Z) :- e(X, A), f(Y, B), f(Z, B).", each(600, "e(0, %d).") + each(600, "f(%d, %d).")},
		{"a Not alone tells them apart", "p(Y, Z) :- e(A, Y), f(Y, Z), not no(A, Z).", each(600, "e(0, %d).") + each(300, "e(1, %d).") + each(600, "f(%d, %d).") + each(500, "no(0, %d).")},
		{"none", "p(X, Y, Z) :- e(X, A), e(Y, B), e(Z, C), no(A, B, C).", line},
		{"one of three", "p(X, Y, Z) :- e(X, A), e(Y, B), e(Z, C), no(A, B, C).", line + "no(3, 2, 1). no(900, 900, 900). no(0, 1, 1)."},
	} {
		l, base := program(e.program), facts(e.base)
		want := grown(l, base)
		answers(t, e.what, l, rel.Of(base), len(want), want)
		answers(t, e.what, l, rel.Of(base), math.MaxInt, want)
		if len(want) > len(base) {
			refuses(t, e.what, l, rel.Of(base), len(want)-1, api.ErrMany)
		} else if e.what != "none" {
			t.Errorf("the test itself is wrong: %s", e.what)
		}
	}
}

// wide is a clause of six head variables, whose literals are mostly one behind the other.
func wide(g *rand.Rand) api.Clause {
	x := func(n int) api.Term { return api.Term{Var: true, N: uint32(n)} }
	var c api.Clause
	for i := range 5 + g.Intn(3) {
		a := api.Atom{Pred: uint32(1 + g.Intn(2)), Args: []api.Term{x(i), x(i + 1)}}
		if g.Intn(2) == 0 {
			slices.Reverse(a.Args)
		}
		c.Body = append(c.Body, api.Lit{A: a})
	}
	vars := g.Perm(len(c.Body) + 1)
	for _, n := range vars[:6] {
		c.Head.Args = append(c.Head.Args, x(n))
	}
	if g.Intn(2) == 0 {
		c.Body[g.Intn(len(c.Body))].A.Args[g.Intn(2)] = x(vars[0])
	}
	if g.Intn(2) == 0 && len(c.Body) < api.MaxBody {
		c.Body = append(c.Body, api.Lit{Not: true, A: api.Atom{Pred: 3, Args: []api.Term{c.Head.Args[0], c.Head.Args[5]}}})
	}
	g.Shuffle(len(c.Body), func(i, k int) { c.Body[i], c.Body[k] = c.Body[k], c.Body[i] })
	return c
}

func TestWideOnesByChance(t *testing.T) {
	g := rand.New(rand.NewSource(143))
	first := api.Clause{Head: api.Atom{Pred: 1, Args: []api.Term{{Var: true}, {Var: true, N: 1}}}, Body: []api.Lit{{A: api.Atom{Pred: 4, Args: []api.Term{{Var: true}, {Var: true, N: 1}}}}}}
	count := map[bool]int{}
	for range 150 {
		c := wide(g)
		if _, e := safe.Right([]api.Clause{c}); e != api.OK {
			continue
		}
		var base []api.Fact
		symbols := 12 + g.Intn(6)
		for i, n := range g.Perm(symbols) {
			base = append(base, api.Fact{Pred: uint32(1 + g.Intn(2)), Args: []uint32{uint32(i), uint32(n)}})
			base = append(base, api.Fact{Pred: uint32(1 + g.Intn(4)), Args: []uint32{uint32(g.Intn(symbols)), uint32(g.Intn(symbols))}})
		}
		l := []api.Clause{c, first}
		want := grown(l, base)
		all := answers(t, "a wide one", l, rel.Of(base), len(want), want)
		refuses(t, "a wide one", l, rel.Of(base), len(want)-1, api.ErrMany)
		count[len(all.Find(c.Head)) > 0]++
	}
	if count[true] < 60 {
		t.Errorf("the test itself is wrong: %v", count)
	}
}

// R1, R3: no set is an empty base.
func TestNoBase(t *testing.T) {
	for _, none := range []*rel.Rel{nil, rel.New(), {}, rel.Of(nil)} {
		for _, l := range [][]api.Clause{nil, {}, program("p(X) :- q(X).")} {
			answers(t, "no base", l, none, 0, set(nil))
			refuses(t, "no base, less than none", l, none, -1, api.ErrArg)
		}
		l := program("p(a). q(X) :- p(X), not r(X). s :- not u.")
		answers(t, "no base, and some come", l, none, 3, set(facts("p(a). q(a). s.")))
		refuses(t, "no base, and too many come", l, none, 2, api.ErrMany)
	}
	empty := []api.Clause{{Head: api.Atom{Args: []api.Term{}}, Body: []api.Lit{}}}
	answers(t, "empty lists", empty, nil, 1, set([]api.Fact{{}}))
	refuses(t, "empty lists", empty, nil, 0, api.ErrMany)
}

// roomy is a program each list of which has room behind its end, where something stands.
func roomy(l []api.Clause) []api.Clause {
	other := program("w(z, Z) :- x(Z), not y(z).")[0]
	terms := func(a api.Atom) api.Atom {
		return api.Atom{Pred: a.Pred, Args: append(slices.Clone(a.Args), other.Head.Args...)[:len(a.Args)]}
	}
	var m []api.Clause
	for _, c := range l {
		d := api.Clause{Head: terms(c.Head)}
		for _, b := range c.Body {
			d.Body = append(d.Body, api.Lit{Not: b.Not, A: terms(b.A)})
		}
		d.Body = append(d.Body, other.Body...)[:len(c.Body)]
		m = append(m, d)
	}
	return append(m, other)[:len(l)]
}

// whole is a text of a program, with what stands behind the ends of its lists.
func whole(l []api.Clause) string {
	var b strings.Builder
	atom := func(a api.Atom) { fmt.Fprint(&b, a.Pred, len(a.Args), a.Args[:cap(a.Args)], ";") }
	for _, c := range l[:cap(l)] {
		atom(c.Head)
		for _, lit := range c.Body[:cap(c.Body)] {
			fmt.Fprint(&b, lit.Not)
			atom(lit.A)
		}
		fmt.Fprint(&b, len(c.Body), "\n")
	}
	return b.String()
}

// R3, R5: what is handed in is not changed, and the same is answered each time.
func TestNothingIsChanged(t *testing.T) {
	for _, e := range []struct{ program, base string }{
		{"p(X, Z) :- p(X, Y), p(Y, Z), not q(X).", "p(a, b). p(b, c). p(c, d). q(b)."},
		{"p(X, Z) :- e(X, Y), e(Y, Z), not q(X). e(Y, X) :- e(X, Y).", each(700, "e(%d, %d).") + "q(8)."},
		{"p(A, B, C, D, E, F) :- q(A), q(B), q(C), q(D), q(E), q(F). q(A) :- r(A).", each(50, "q(%d). r(%d).")},
		{"p(X) :- q(X), not p(X).", "q(a)."},
		{"p(X) :- q(X). q(Y) :- not r.", "q(a)."},
	} {
		l, base := roomy(program(e.program)), rel.Of(facts(e.base))
		kept, had := whole(l), base.List()
		all, rounds, errno := fix.Least(l, base, 5000)
		for range 2 {
			again, n, e := fix.Least(l, base, 5000)
			if n != rounds || e != errno || !slices.EqualFunc(again.List(), all.List(), func(f, g api.Fact) bool { return atoms.Compare(f, g) == 0 }) {
				t.Errorf("R5: Least of %s: %s, %d, %v, and again %s, %d, %v", short(l), short(all), rounds, errno, short(again), n, e)
			}
		}
		if got := whole(l); got != kept {
			t.Errorf("R3: the clauses are changed: %s, not %s", short(got), short(kept))
		}
		if got := base.List(); !maps.Equal(set(got), set(had)) || len(got) != len(had) {
			t.Errorf("R3: the base is changed: %s, not %s", short(got), short(had))
		}
	}
}

// R3, R4: what is answered is a set of its own, which hangs together with no other one.
func TestWhatIsAnsweredIsItsOwn(t *testing.T) {
	for _, text := range []string{"", "p(X) :- q(X).", "p(X) :- q(X), r(X). r(X) :- q(X), not s(X)."} {
		l, base := program(text), rel.Of(facts("q(a). q(b). s(b)."))
		want := told(l, base.List())
		one, two := answers(t, "the first", l, base, 10, want), answers(t, "the second", l, base, 10, want)
		one.Put(facts("q(c).")[0])
		for _, f := range facts("q(a). q(b). s(b). p(a).") {
			one.Cut(f)
		}
		if got := two.List(); !maps.Equal(set(got), want) {
			t.Errorf("R3: two answers hang together: %v", got)
		}
		answers(t, "the base has what it had", l, base, 10, want)
		if base.Len() != 3 {
			t.Errorf("R3: the base hangs together with an answer: %v", base.List())
		}
		base.Put(facts("q(c).")[0])
		base.Cut(facts("q(a).")[0])
		for _, c := range l {
			clear(c.Head.Args)
			clear(c.Body)
		}
		if got := two.List(); !maps.Equal(set(got), want) {
			t.Errorf("R3: what was handed in is kept: %v", got)
		}
	}
}

// R5: the base is asked as it stands, and nothing of one call stays for the next one.
func TestCallsDoNotHangTogether(t *testing.T) {
	l, base := program("p(X) :- q(X), not r(X). s(X, Y) :- p(X), p(Y)."), rel.New()
	ones, nots := facts(each(12, "q(%d).")), facts(each(12, "r(%d)."))
	for i := range ones {
		base.Put(ones[i])
		n := i + 1
		answers(t, "one more", l, base, 2*n+n*n, told(l, base.List()))
		refuses(t, "one more, and too many", l, base, 2*n+n*n-1, api.ErrMany)
		base.Put(nots[i])
		answers(t, "one less", l, base, 2*n+i*i, told(l, base.List()))
		refuses(t, "one less, and too many", l, base, 2*n+i*i-1, api.ErrMany)
		base.Cut(nots[i])
	}
}

// R1: what is far too much ends too.
func TestVeryLargeOnes(t *testing.T) {
	const n = 1 << 20
	long := api.Atom{Pred: 7, Args: make([]api.Term, n)}
	base := rel.Of([]api.Fact{{Pred: 7, Args: make([]uint32, n)}})
	for what, l := range map[string][]api.Clause{
		"very many clauses": make([]api.Clause, n),
		"a very long head":  {{Head: long}},
		"a very long body":  {{Body: make([]api.Lit, n)}},
		"a very long atom":  {{}, {Body: []api.Lit{{A: long}}}},
		"one that is Not":   {{}, {Body: []api.Lit{{Not: true, A: long}}}},
	} {
		refuses(t, what, l, base, math.MaxInt, api.ErrArg)
		refuses(t, what, l, base, math.MinInt, api.ErrArg)
	}
	refuses(t, "a very long fact", nil, base, 0, api.ErrMany)
	if all, _, e := fix.Least(nil, base, 1); e != api.OK || all.Len() != 1 {
		t.Errorf("P14.1: a very long fact: %d, %v", all.Len(), e)
	}
}

func FuzzAsTold(f *testing.F) {
	f.Add([]byte{})
	f.Add([]byte{1, 1, 1, 5, 0, 2, 0, 1, 1, 9, 0, 0, 1, 9, 5, 0, 0, 1, 0, 1, 1, 1, 2})
	f.Add([]byte{2, 0, 1, 0, 2, 0, 1, 1, 5, 0, 3, 4, 1, 0, 0, 3, 0, 1, 0, 0, 1, 0, 1, 1, 0, 1, 2, 4, 1})
	f.Fuzz(func(t *testing.T, b []byte) { bytesAreTold(t, b[:min(len(b), 400)], 4) })
}
