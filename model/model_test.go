package model_test

import (
	"fmt"
	"maps"
	"math"
	"math/rand"
	"slices"
	"strings"
	"testing"

	"bailey/api"
	"bailey/atoms"
	"bailey/fix"
	"bailey/join"
	"bailey/model"
	"bailey/parse"
	"bailey/rel"
	"bailey/safe"
	"bailey/syms"
)

// names has the numbers of the names in this test's texts.
var names = syms.New()

// program is what a text says.
func program(text string) (l []api.Clause) {
	rules, at, e := parse.Parse(names, text)
	if e != api.OK {
		panic("the test itself is wrong: " + text[at:])
	}
	for _, r := range rules {
		c := api.Clause{Head: r.Head.A}
		for _, b := range r.Body {
			c.Body = append(c.Body, api.Lit{Not: b.Not, A: b.S.A})
		}
		l = append(l, c)
	}
	return l
}

// facts are what a text says.
func facts(text string) (l []api.Fact) {
	for _, c := range program(text) {
		f, is := atoms.Of(c.Head)
		if !is || len(c.Body) > 0 {
			panic("the test itself is wrong: " + text)
		}
		l = append(l, f)
	}
	return l
}

// each is a text for each number from 0 on below n: the text with the number, and those above it, in the places of its %d.
func each(n int, form string) string {
	var b strings.Builder
	for i := range n {
		var up []any
		for k := range strings.Count(form, "%d") {
			up = append(up, i+k)
		}
		fmt.Fprintf(&b, form, up...)
	}
	return b.String()
}

// short is what a test says of what it handed in.
func short(v any) string {
	text := fmt.Sprint(v)
	return text[:min(len(text), 400)]
}

// key is a fact as a map's name.
type key struct {
	pred uint32
	n    int
	args [api.MaxArity]uint32
}

func keyOf(f api.Fact) key {
	k := key{pred: f.Pred, n: len(f.Args)}
	copy(k.args[:], f.Args)
	return k
}

// set is one of facts.
type set map[key]bool

func setOf(l []api.Fact) set {
	s := set{}
	for _, f := range l {
		s[keyOf(f)] = true
	}
	return s
}

func (s set) is(other set) bool { return maps.Equal(s, other) }

// ground is a clause by one choice.
type ground struct {
	head      key
	body, not []key
}

// symbols are all that stand in clauses and facts.
func symbols(l []api.Clause, given []api.Fact) []uint32 {
	are := map[uint32]bool{}
	note := func(a api.Atom) {
		for _, t := range a.Args {
			if !t.Var {
				are[t.N] = true
			}
		}
	}
	for _, c := range l {
		note(c.Head)
		for _, b := range c.Body {
			note(b.A)
		}
	}
	for _, f := range given {
		note(atoms.Lift(f))
	}
	return slices.Sorted(maps.Keys(are))
}

// grounds are all clauses by all choices of the symbols that there are.
func grounds(l []api.Clause, given []api.Fact) (all []ground) {
	of := symbols(l, given)
	for _, c := range l {
		vars := map[uint32]bool{}
		for _, b := range c.Body {
			for _, n := range atoms.Vars(b.A) {
				vars[n] = true
			}
		}
		choose(slices.Collect(maps.Keys(vars)), of, map[uint32]uint32{}, func(by map[uint32]uint32) {
			all = append(all, becomes(c, by))
		})
	}
	return all
}

// choose tells all choices for variables.
func choose(vars, of []uint32, by map[uint32]uint32, told func(by map[uint32]uint32)) {
	if len(vars) == 0 {
		told(by)
		return
	}
	for _, n := range of {
		by[vars[0]] = n
		choose(vars[1:], of, by, told)
	}
}

// becomes: what a clause becomes by a choice.
func becomes(c api.Clause, by map[uint32]uint32) (g ground) {
	one := func(a api.Atom) key {
		k := key{pred: a.Pred, n: len(a.Args)}
		for i, t := range a.Args {
			k.args[i] = t.N
			if t.Var {
				k.args[i] = by[t.N]
			}
		}
		return k
	}
	for _, b := range c.Body {
		if b.Not {
			g.not = append(g.not, one(b.A))
		} else {
			g.body = append(g.body, one(b.A))
		}
	}
	g.head = one(c.Head)
	return g
}

// holds: is a body so, where some facts are, and what is Not is held against others?
func (g ground) holds(there, no set) bool {
	return !slices.ContainsFunc(g.body, func(k key) bool { return !there[k] }) && !slices.ContainsFunc(g.not, func(k key) bool { return no[k] })
}

// closed: what comes of facts, if what is Not is held against what never changes.
func closed(all []ground, given, no set) set {
	there := maps.Clone(given)
	for again := true; again; {
		again = false
		for _, g := range all {
			if !there[g.head] && g.holds(there, no) {
				there[g.head], again = true, true
			}
		}
	}
	return there
}

// told is the perfect model without a word of levels: what is sure comes of what can't be, and what could be of what is not sure, by turns, until no more is sure. In a program with levels nothing is left between.
func told(l []api.Clause, given []api.Fact) set {
	all, have := grounds(l, given), setOf(given)
	for sure := (set{}); ; {
		could := closed(all, have, sure)
		more := closed(all, have, could)
		if !more.is(sure) {
			sure = more
			continue
		}
		if !could.is(sure) {
			panic("the test itself is wrong: " + short(l))
		}
		return sure
	}
}

// tried is the same by all facts that could come: those sets which are what comes of them, if what is Not is none of the set itself. A program with levels has one. (False, if there are too many to try.)
func tried(l []api.Clause, given []api.Fact) (sets []set, is bool) {
	all, have, could := grounds(l, given), setOf(given), set{}
	for _, g := range all {
		if !have[g.head] {
			could[g.head] = true
		}
	}
	if len(could) > 7 {
		return nil, false
	}
	heads := slices.Collect(maps.Keys(could))
	for bits := range 1 << len(heads) {
		there := maps.Clone(have)
		for i, k := range heads {
			if bits>>i&1 == 1 {
				there[k] = true
			}
		}
		if closed(all, have, there).is(there) {
			sets = append(sets, there)
		}
	}
	return sets, true
}

// grown is what told tells, for what has too many choices.
func grown(l []api.Clause, given []api.Fact) set {
	closed := func(no *rel.Rel) *rel.Rel {
		all := rel.Of(given)
		for n := -1; n < all.Len(); {
			n = all.Len()
			for _, c := range l {
				all = rel.Of(append(all.List(), join.Heads(c, all, no)...))
			}
		}
		return all
	}
	for sure := rel.New(); ; {
		more := closed(closed(sure))
		if more.Less(sure).Len() == 0 {
			return setOf(sure.List())
		}
		sure = more
	}
}

// goesRound: does a way from heads to bodies go round through a Not?
func goesRound(l []api.Clause) bool {
	comes := func(from, to uint32) bool {
		been := map[uint32]bool{from: true}
		for n := 0; n < len(been); {
			n = len(been)
			for _, c := range l {
				for _, b := range c.Body {
					been[b.A.Pred] = been[b.A.Pred] || been[c.Head.Pred]
				}
			}
			maps.DeleteFunc(been, func(_ uint32, is bool) bool { return !is })
		}
		return been[to]
	}
	return slices.ContainsFunc(l, func(c api.Clause) bool {
		return slices.ContainsFunc(c.Body, func(b api.Lit) bool { return b.Not && comes(b.A.Pred, c.Head.Pred) })
	})
}

// wrong: the error that there is before anything comes of the facts.
func wrong(l []api.Clause, given []api.Fact) api.Errno {
	if _, e := safe.Right(l); e != api.OK {
		return e
	}
	if goesRound(l) {
		return api.ErrStrat
	}
	length := map[uint32]int{}
	for _, c := range l {
		length[c.Head.Pred] = len(c.Head.Args)
		for _, b := range c.Body {
			length[b.A.Pred] = len(b.A.Args)
		}
	}
	for _, f := range given {
		if n, is := length[f.Pred]; is && n != len(f.Args) || len(f.Args) > api.MaxArity {
			return api.ErrArity
		}
		length[f.Pred] = len(f.Args)
	}
	return api.OK
}

// refuses says that Of has an error, and nothing else.
func refuses(t testing.TB, what string, l []api.Clause, given []api.Fact, most int, e api.Errno) {
	t.Helper()
	if all, got := model.Of(l, given, most); got != e || len(all) > 0 {
		t.Fatalf("P15.1, R2: %s: Of(%s, %s, %d): %s, %v, not none, %v", what, short(l), short(given), most, short(all), got, e)
	}
}

// answers says that Of has facts in their order, each once.
func answers(t testing.TB, what string, l []api.Clause, given []api.Fact, most int, want set) []api.Fact {
	t.Helper()
	all, e := model.Of(l, given, most)
	if e != api.OK {
		t.Fatalf("P15.1: %s: Of(%s, %s, %d): %v", what, short(l), short(given), most, e)
	}
	if len(all) != len(want) || !setOf(all).is(want) || !slices.IsSortedFunc(all, atoms.Compare) {
		t.Fatalf("P15.1: %s: Of(%s, %s, %d): %s, not %s", what, short(l), short(given), most, short(all), short(want))
	}
	return all
}

// asTold holds Of against what it should have, for each most that could matter.
func asTold(t testing.TB, what string, l []api.Clause, given []api.Fact, want set) {
	t.Helper()
	n, have := len(want), len(setOf(given))
	for _, most := range []int{n, n + 1, 2*n + 1, math.MaxInt} {
		answers(t, what, l, given, most, want)
	}
	for _, most := range []int{n - 1, n / 2, have, have - 1, have / 2, 0} {
		if most >= 0 && most < n {
			refuses(t, what, l, given, most, api.ErrMany)
		}
	}
	for _, most := range []int{-1, -n - 1, math.MinInt} {
		refuses(t, what, l, given, most, api.ErrArg)
	}
}

func TestTheDocumentsExample(t *testing.T) {
	l, given := program("p(X) :- q(X), not r(X). r(X) :- s(X)."), facts("q(a). q(b). s(a).")
	want := setOf(facts("q(a). q(b). s(a). r(a). p(b)."))
	asTold(t, "the example", l, given, want)
	answers(t, "five at most", l, given, 5, want)
	refuses(t, "four at most", l, given, 4, api.ErrMany)
}

// few are programs, facts, and what comes to them.
var few = []struct{ what, program, given, beyond string }{
	{"nothing", "", "", ""},
	{"no clauses", "", "p(b). q. p(a).", ""},
	{"no facts", "p(X) :- q(X), not r(X).", "", ""},
	{"no body", "p(a). p(a). q.", "q.", "p(a)."},
	{"one level", "p(X) :- q(X).", "q(a). q(b). r(c).", "p(a). p(b)."},
	{"one level that goes round", "w(X, Y) :- e(X, Y). w(X, Z) :- w(X, Y), e(Y, Z).", "e(a, b). e(b, c). e(b, d).", "w(a, b). w(b, c). w(b, d). w(a, c). w(a, d)."},
	{"not", "p(X) :- q(X), not r(X).", "q(a). q(b). r(b). r(c).", "p(a)."},
	{"not, of nothing", "p(X) :- q(X), not r(X).", "q(a).", "p(a)."},
	{"not alone", "p :- not q. r :- not s.", "s.", "p."},
	{"not, of two Args", "p(X, Y) :- q(X), q(Y), not r(Y, X). r(X, Y) :- s(X, Y).", "q(a). q(b). s(a, b).", "r(a, b). p(a, a). p(a, b). p(b, b)."},
	{"not, of one of a literal's", "p(X, Y) :- q(X, Y), not r(X). r(X) :- q(X, X).", "q(a, a). q(a, b). q(b, a).", "r(a). p(b, a)."},
	{"two levels, the higher one first", "p :- not q. q :- r.", "r.", "q."},
	{"two levels, the lower one first", "q :- r. p :- not q.", "r.", "q."},
	{"two levels, nothing below", "p :- not q. q :- r.", "", "p."},
	{"three levels", "a(X) :- n(X), not b(X). b(X) :- n(X), not c(X). c(X) :- n(X), not d(X).", "n(1). n(2). d(1).", "c(2). b(1). a(2)."},
	{"three levels, the lowest one first", "c(X) :- n(X), not d(X). b(X) :- n(X), not c(X). a(X) :- n(X), not b(X).", "n(1). n(2). d(1).", "c(2). b(1). a(2)."},
	{"three levels, the middle one first", "b(X) :- n(X), not c(X). a(X) :- n(X), not b(X). c(X) :- n(X), not d(X).", "n(1). n(2). d(1).", "c(2). b(1). a(2)."},
	{"what is not not so is so", "p(X) :- n(X), not np(X). np(X) :- n(X), not q(X).", "n(a). n(b). q(a). q(c).", "np(b). p(a)."},
	{"a level that a way leads up to", "p :- not q. r :- p. s :- r. u :- not s. q :- v.", "", "p. r. s."},
	{"a level that a way leads up to, not so", "p :- not q. r :- p. s :- r. u :- not s. q :- v.", "v.", "q. u."},
	{"which can't be come to", "w(X, Y) :- e(X, Y). w(X, Z) :- w(X, Y), e(Y, Z). far(X, Y) :- n(X), n(Y), not w(X, Y).", "n(a). n(b). n(c). e(a, b). e(b, c).", "w(a, b). w(b, c). w(a, c). far(a, a). far(b, b). far(c, c). far(b, a). far(c, b). far(c, a)."},
	{"ways past what is closed", "shut(X) :- lock(X), not key(X). w(X) :- start(X), not shut(X). w(Y) :- w(X), e(X, Y), not shut(Y).", "start(a). e(a, b). e(b, c). e(a, d). e(d, f). lock(b). lock(d). key(d).", "shut(b). w(a). w(d). w(f)."},
	{"two that come of each other, above a Not", "even(Y) :- odd(X), next(X, Y), not end(Y). odd(Y) :- even(X), next(X, Y), not end(Y). end(X) :- stop(X), not go(X).", "even(0). next(0, 1). next(1, 2). next(2, 3). next(3, 4). stop(3). stop(1). go(1).", "end(3). odd(1). even(2)."},
	{"the greatest", "less(X) :- v(X), v(Y), lt(X, Y). top(X) :- v(X), not less(X).", "v(1). v(2). v(3). lt(1, 2). lt(2, 3). lt(1, 3). lt(3, 4).", "less(1). less(2). top(3)."},
	{"all of something", "lacks(X) :- n(X), k(Y), not has(X, Y). full(X) :- n(X), not lacks(X).", "n(a). n(b). k(1). k(2). has(a, 1). has(a, 2). has(b, 2).", "lacks(b). full(a)."},
	{"one head of two levels' worth", "p(X) :- q(X). p(X) :- s(X), not r(X). r(X) :- u(X), not q(X).", "q(a). s(b). s(c). u(a). u(b).", "r(b). p(a). p(c)."},
	{"not, of two levels", "p(X) :- n(X), not q(X), not r(X). q(X) :- s(X). r(X) :- n(X), not q(X), not u(X).", "n(a). n(b). n(c). s(a). u(b).", "q(a). r(c). p(b)."},
	{"one Not twice", "p(X) :- n(X), not q(X), not q(X). q(X) :- s(X).", "n(a). n(b). s(a).", "q(a). p(b)."},
	{"what is so and what is not are one predicate's", "p(X) :- q(X, Y), not q(Y, X). q(X, Y) :- e(X, Y).", "e(a, b). e(b, a). e(a, c).", "q(a, b). q(b, a). q(a, c). p(a)."},
	{"given, of a head", "p(X) :- q(X), not r(X). r(X) :- s(X).", "q(a). q(b). q(c). s(a). r(b). p(b). p(d).", "r(a). p(c)."},
	{"given, all that comes", "p(X) :- q(X), not r(X). r(X) :- s(X).", "q(a). q(b). s(a). r(a). p(b).", ""},
	{"given, what would not come", "p(X) :- q(X), not r(X). r(X) :- s(X). u(X) :- p(X).", "q(a). s(a). p(a).", "r(a). u(a)."},
	{"given twice", "p(X) :- q(X), not r(X). r(X) :- s(X).", "q(a). q(a). s(a). q(b). s(a). q(b).", "r(a). p(b)."},
	{"what no clause has", "p(X) :- q(X), not r(X).", "z(a). q(a). y. r(b). x(a, b).", "p(a)."},
	{"symbols that clauses alone have", "p(a) :- not q(b). q(X) :- s(X). r(c). r(X) :- p(X). u(X) :- r(X), not p(X).", "", "p(a). r(c). r(a). u(c)."},
	{"a Not ahead of what holds it", "p(X) :- not r(X), q(X). r(X) :- not u(X), s(X).", "q(a). q(b). s(a). s(b). u(b).", "r(a). p(b)."},
	{"one clause twice", "p(X) :- q(X), not r(X). r(X) :- s(X). p(X) :- q(X), not r(X). r(X) :- s(X).", "q(a). q(b). s(a).", "r(a). p(b)."},
	{"what goes round below a Not", "p :- not q. q :- r. r :- q.", "", "p."},
	{"what goes round below a Not, and is so", "p :- not q. q :- r. r :- q. r :- s.", "s.", "q. r."},
}

func TestFewFacts(t *testing.T) {
	for _, e := range few {
		l, given, beyond := program(e.program), facts(e.given), facts(e.beyond)
		want := setOf(slices.Concat(given, beyond))
		if wrong(l, given) != api.OK || len(want) != len(setOf(given))+len(beyond) {
			t.Fatalf("the test itself is wrong: %s", e.what)
		}
		asTold(t, e.what, l, given, want)
		for _, as := range []set{told(l, given), grown(l, given)} {
			if !as.is(want) {
				t.Fatalf("the test itself is wrong: %s: %v, not %v", e.what, as, want)
			}
		}
		follows(t, l, given, nil)
	}
}

// follows says what the document says to follow, for a program that may be.
func follows(t testing.TB, l []api.Clause, given, more []api.Fact) {
	t.Helper()
	all, e := model.Of(l, given, math.MaxInt)
	if e != api.OK {
		t.Fatalf("P15.2: Of(%s, %s): %v", short(l), short(given), e)
	}
	are := rel.Of(all)
	if rel.Of(given).Less(are).Len() > 0 {
		t.Fatalf("P15.2: Of(%s, %s): %s: not all that was given", short(l), short(given), short(all))
	}
	for _, c := range l {
		if rel.Of(join.Heads(c, are, are)).Less(are).Len() > 0 {
			t.Fatalf("P15.2: Of(%s, %s): %s is not closed under %s", short(l), short(given), short(all), short(c))
		}
	}
	for _, f := range are.Less(rel.Of(given)).List() {
		others := rel.Of(all)
		others.Cut(f)
		if !slices.ContainsFunc(l, func(c api.Clause) bool { return rel.Of(join.Heads(c, others, are)).Has(f) }) {
			t.Fatalf("P15.2: Of(%s, %s): %v is no head of others", short(l), short(given), f)
		}
	}
	answers(t, "P15.2: nothing comes to what is closed", l, all, len(all), setOf(all))
	if slices.ContainsFunc(l, func(c api.Clause) bool { return slices.ContainsFunc(c.Body, func(b api.Lit) bool { return b.Not }) }) {
		return
	}
	least, _, e := fix.Least(l, rel.Of(given), math.MaxInt)
	if e != api.OK || !setOf(least.List()).is(setOf(all)) {
		t.Fatalf("P15.2: Of(%s, %s): %s, and nothing is Not: not the least %s, %v", short(l), short(given), short(all), short(least.List()), e)
	}
	most, e := model.Of(l, slices.Concat(given, more), math.MaxInt)
	if e != api.OK || are.Less(rel.Of(most)).Len() > 0 {
		t.Fatalf("P15.2: Of(%s, %s): %s; with %s: %s, %v", short(l), short(given), short(all), short(more), short(most), e)
	}
}

// Symbols, predicates and variables of all numbers are as others; the largest clauses are gone through.
func TestNumbersAtTheirEdges(t *testing.T) {
	const most = math.MaxUint32
	x := func(n uint32) api.Term { return api.Term{Var: true, N: n} }
	s := func(n uint32) api.Term { return api.Term{N: n} }
	at := func(pred uint32, l ...api.Term) api.Atom { return api.Atom{Pred: pred, Args: l} }
	fact := func(pred uint32, l ...uint32) api.Fact { return api.Fact{Pred: pred, Args: l} }
	l := []api.Clause{
		{Head: at(0, x(15), s(most)), Body: []api.Lit{{A: at(most, x(15))}, {Not: true, A: at(1, x(15))}}},
		{Head: at(1, x(0)), Body: []api.Lit{{A: at(most, x(0))}, {Not: true, A: at(2, x(0))}}},
	}
	given := []api.Fact{fact(most, 0), fact(most, most), fact(most, 16), fact(2, 0), fact(2, most-1)}
	asTold(t, "edges of numbers", l, given, setOf(append(given, fact(1, 16), fact(1, most), fact(0, 0, most))))

}

// The largest clause, at all of its limits: 8 literals, some of them Not, of 6 Args, and 16 variables.
func TestTheLargestClause(t *testing.T) {
	x := func(n int) api.Term { return api.Term{Var: true, N: uint32(n % 16)} }
	at := func(pred uint32, l ...api.Term) api.Atom { return api.Atom{Pred: pred, Args: l} }
	fact := func(pred uint32, a api.Atom) api.Fact { return api.Fact{Pred: pred, Args: valued(a)} }
	nots := []int{0, 3, 6}
	whole := api.Clause{Head: at(7, x(15), x(14), x(13), x(0), x(1), x(2))}
	var chain []api.Fact
	for i := range 8 {
		a := at(9, x(2*i), x(2*i+1), x(2*i+2), x(2*i+3), x(2*i+4), api.Term{N: math.MaxUint32})
		is := slices.Contains(nots, i)
		if is {
			a.Pred = 8
		} else {
			chain = append(chain, fact(9, a))
		}
		whole.Body = append(whole.Body, api.Lit{Not: is, A: a})
	}
	l := []api.Clause{whole, {Head: at(8, x(5), x(4), x(3), x(2), x(1), x(0)), Body: []api.Lit{{A: at(6, x(0), x(1), x(2), x(3), x(4), x(5))}}}}
	if e := wrong(l, chain); e != api.OK {
		t.Fatalf("the test itself is wrong: %v", e)
	}
	asTold(t, "the largest clause", l, chain, setOf(append(chain, fact(7, whole.Head))))
	for _, i := range nots {
		no := fact(8, whole.Body[i].A)
		more := append(slices.Clip(chain), no)
		asTold(t, "the largest clause, not so", l, more, setOf(more))
		back := fact(6, whole.Body[i].A)
		slices.Reverse(back.Args)
		more = append(slices.Clip(chain), back)
		asTold(t, "the largest clause, not so by what comes", l, more, setOf(append(more, no)))
	}
	for i := range chain {
		one := slices.Delete(slices.Clone(chain), i, i+1)
		asTold(t, "the largest clause, one fact less", l, one, setOf(one))
	}
}

// valued: an atom's Args, with 100 and its number in the place of each variable.
func valued(a api.Atom) (l []uint32) {
	for _, t := range a.Args {
		if t.Var {
			t.N += 100
		}
		l = append(l, t.N)
	}
	return l
}

// What strat.Strata says of a program is said, whatever the facts are.
func TestProgramsThatMayNotBe(t *testing.T) {
	long := api.Clause{Head: api.Atom{Pred: 1, Args: make([]api.Term, 7)}}
	nine := api.Clause{Head: api.Atom{Pred: 1}, Body: make([]api.Lit, 9)}
	far := api.Clause{Head: api.Atom{Pred: 1, Args: []api.Term{{Var: true, N: 16}}}, Body: []api.Lit{{A: api.Atom{Pred: 2, Args: []api.Term{{Var: true, N: 16}}}}}}
	given := facts("p. q. r. s. q(a). p(a). p(a, a).") // of which no two lengths may be
	for _, e := range []struct {
		what string
		l    []api.Clause
		e    api.Errno
	}{
		{"a long head", []api.Clause{long}, api.ErrForm},
		{"a long body", []api.Clause{nine}, api.ErrForm},
		{"a variable that may not be", []api.Clause{far}, api.ErrForm},
		{"a head that nothing holds", program("p(X)."), api.ErrSafe},
		{"a head that a Not alone has", program("p(X) :- q, not r(X)."), api.ErrSafe},
		{"a Not that nothing holds", program("p :- q, not r(X)."), api.ErrSafe},
		{"two lengths in one clause", program("p :- p(X)."), api.ErrArity},
		{"two lengths in two clauses", program("p :- q. r :- p(a)."), api.ErrArity},
		{"two lengths, of what is not so", program("p :- q. r :- s, not q(a)."), api.ErrArity},
		{"not itself", program("p :- not p."), api.ErrStrat},
		{"not itself, of another symbol", program("p(X) :- q(X), not p(a)."), api.ErrStrat},
		{"not each other", program("p :- not q. q :- not p."), api.ErrStrat},
		{"not what comes of itself", program("p :- q, not r. r :- s. s :- u, p."), api.ErrStrat},
		{"as the document says", program("p(X) :- not p(X), q(X)."), api.ErrStrat},
		{"not safe, and no levels", program("p(X) :- not p(X)."), api.ErrSafe},
		{"no levels, and two lengths", program("p :- not p. p(a)."), api.ErrArity},
		{"no levels, and a clause that may not be behind", append(program("p :- not p."), long), api.ErrForm},
		{"many clauses", program(each(401, "p(%d).")), api.ErrMany},
		{"many clauses, each of them wrong", slices.Repeat([]api.Clause{nine, far, long}, 200), api.ErrMany},
	} {
		if got := wrong(e.l, nil); got != e.e {
			t.Fatalf("the test itself is wrong: %s: %v", e.what, got)
		}
		for _, most := range []int{0, 1, 7, 8, 100, math.MaxInt} {
			for _, l := range [][]api.Fact{given, nil, facts("z(a)."), facts("z(a). z."), {{Args: make([]uint32, 7)}}} {
				refuses(t, e.what, e.l, l, most, e.e)
				refuses(t, e.what+", less than none", e.l, l, -1-most, api.ErrArg)
			}
		}
		for at := range 4 {
			if e.e != api.ErrMany {
				l := slices.Insert(program("w(X) :- x(X). y(X) :- w(X), not x(X). w(a)."), at, e.l...)
				refuses(t, e.what+", among others", l, given, 100, e.e)
			}
		}
	}
}

// What safe.Arities says of facts is said of a program that may be, and ahead of how many there are.
func TestFactsThatMayNotBe(t *testing.T) {
	long := api.Fact{Pred: 7000, Args: make([]uint32, 7)}
	for _, e := range []struct {
		what, program string
		given         []api.Fact
	}{
		{"a head's predicate", "p(X) :- q(X), not r(X).", facts("p(a, a).")},
		{"a body's predicate", "p(X) :- q(X), not r(X).", facts("q.")},
		{"what is not so", "p(X) :- q(X), not r(X).", facts("r(a, b).")},
		{"of a higher level", "p(X) :- q(X), not r(X). r(X) :- s(X).", facts("p.")},
		{"of a lower level", "p(X) :- q(X), not r(X). r(X) :- s(X).", facts("s(a, a).")},
		{"two facts", "p(X) :- q(X), not r(X).", facts("z(a). z.")},
		{"two facts, no clauses", "", facts("z. z(a, b).")},
		{"a long one", "p(X) :- q(X), not r(X).", []api.Fact{long}},
		{"a long one, no clauses", "", []api.Fact{long}},
		{"two long ones", "", []api.Fact{long, long}},
	} {
		l := program(e.program)
		if got := wrong(l, e.given); got != api.ErrArity {
			t.Fatalf("the test itself is wrong: %s: %v", e.what, got)
		}
		for _, most := range []int{0, 1, 2, 4, 100, math.MaxInt} {
			refuses(t, e.what, l, e.given, most, api.ErrArity)
			refuses(t, e.what+", less than none", l, e.given, -1-most, api.ErrArg)
			for at := range 5 {
				more := slices.Insert(facts("y(a). x(a, b). x(b, a). w."), at, e.given...)
				refuses(t, e.what+", among others", l, more, most, api.ErrArity)
			}
		}
	}
	six := api.Fact{Pred: 7000, Args: make([]uint32, 6)}
	for _, text := range []string{"", "p(X) :- q(X), not r(X)."} {
		answers(t, "one as long as may be", program(text), []api.Fact{six}, 1, setOf([]api.Fact{six}))
	}
}

// R7: of no strata the facts alone count, each once.
func TestNoStrata(t *testing.T) {
	for _, l := range [][]api.Clause{nil, {}} {
		for _, n := range []int{0, 1, 2, 3, 10, 500} {
			given := facts(each(n, "p(%d)."))
			for range 3 {
				asTold(t, "no clauses", l, given, setOf(given))
				given = append(given, given...)
				slices.Reverse(given)
			}
		}
	}
}

// R7: facts can be as many as may be, and are too many if they are one more, whatever clauses say.
func TestAsManyFactsAsMayBe(t *testing.T) {
	for _, text := range []string{"p(X) :- p(X).", "q(X) :- p(X), not p(X).", "q(X) :- p(X), not r(X). r(X) :- p(X).", "s(X) :- q(X). q(X) :- p(X), not r(X). r(X) :- p(X), not u(X)."} {
		l := program(text)
		for _, n := range []int{1, 2, 3, 10, 500} {
			given := facts(each(n, "p(%d)."))
			asTold(t, "as many as may be", l, given, grown(l, given))
			asTold(t, "each twice", l, append(given, given...), grown(l, given))
		}
	}
}

// R7: as many clauses as may be are taken: here each has a level of its own.
func TestAsManyLevelsAsMayBe(t *testing.T) {
	l := program(each(api.MaxClauses, "not%d(X) :- n(X), not not%d(X). "))
	slices.Reverse(l) // not400 comes of none; each other one of that above
	for i, c := range l {
		if c.Head.Pred != program(fmt.Sprintf("not%d(a).", 399-i))[0].Head.Pred {
			t.Fatal("the test itself is wrong")
		}
	}
	g := rand.New(rand.NewSource(151))
	for range 4 {
		given := facts("n(a). n(b). n(c). not400(b).")
		var beyond []api.Fact
		for i := range 400 {
			if i%2 == 1 {
				beyond = append(beyond, facts(fmt.Sprintf("not%d(a). not%d(c).", i, i))...)
			} else {
				beyond = append(beyond, facts(fmt.Sprintf("not%d(b).", i))...)
			}
		}
		asTold(t, "as many levels as may be", l, given, setOf(append(given, beyond...)))
		more := append(slices.Clip(l), program("p(a).")...)
		for _, most := range []int{0, 3, 5000} {
			refuses(t, "one clause more", more, given, most, api.ErrMany)
		}
		g.Shuffle(len(l), func(i, k int) { l[i], l[k] = l[k], l[i] })
	}
}

// Each level adds one fact: most is held against all that have come, at each of them.
func TestMostAtEachLevel(t *testing.T) {
	const n = 60
	l := program(each(n, "c%d(X) :- c%d(X), not no(X), not up%d(X). "))
	l = append(l, program(each(n, "up%d(X) :- no(X), c%d(X). "))...)
	given := facts(fmt.Sprintf("c%d(a).", n))
	want := setOf(append(given, facts(each(n, "c%d(a)."))...))
	for most := range 2 * n {
		if most < len(want) {
			refuses(t, "a fact a level", l, given, most, api.ErrMany)
		} else {
			answers(t, "a fact a level", l, given, most, want)
		}
	}
	no := append(slices.Clip(given), facts("no(a).")...)
	answers(t, "no fact a level", l, no, 3, setOf(append(no, facts(fmt.Sprintf("up%d(a).", n-1))...)))
	refuses(t, "no fact a level, and one", l, no, 2, api.ErrMany)
}

// saidBy are a program, mostly one that may be, and facts of so many symbols, that bytes say.
func saidBy(b []byte, symbols int) (l []api.Clause, given []api.Fact) {
	take := func() int {
		if len(b) == 0 {
			return 0
		}
		n := b[0]
		b = b[1:]
		return int(n)
	}
	length := []int{1, 2, 2, 0, 1, 2, 1}
	some := func(pred int) api.Atom {
		a := api.Atom{Pred: uint32(pred)}
		for range length[pred] {
			n := take()
			a.Args = append(a.Args, api.Term{Var: n%8 > 0, N: uint32(n / 8 % 3)})
		}
		if n := take(); n == 255 {
			a.Args = append(a.Args, api.Term{})
		}
		return a
	}
	for range take() % 8 {
		head := 1 + take()%6
		c := api.Clause{Head: some(head)}
		for range take() % 4 {
			switch n := take(); {
			case n > 252:
				c.Body = append(c.Body, api.Lit{Not: true, A: some(take() % 7)})
			case n > 247:
				c.Body = append(c.Body, api.Lit{A: some(take() % 7)})
			case n%5 < 2:
				c.Body = append(c.Body, api.Lit{Not: true, A: some(take() % head)})
			default:
				c.Body = append(c.Body, api.Lit{A: some(take() % (head + 1))})
			}
		}
		if take() < 252 {
			c = held(c)
		}
		l = append(l, c)
	}
	for len(b) > 0 {
		n := take()
		f := api.Fact{Pred: uint32(n % 12)}
		if f.Pred > 6 { // few of those that are heads
			f.Pred %= 3
		}
		for range length[f.Pred] {
			f.Args = append(f.Args, uint32(take()%symbols))
		}
		if n > 253 {
			f.Args = append(f.Args, 0)
		}
		given = append(given, f)
	}
	return l, given
}

// held is a clause with a symbol in the place of each variable that nothing holds.
func held(c api.Clause) api.Clause {
	var is [3]bool
	for _, b := range c.Body {
		for _, n := range atoms.Vars(b.A) {
			is[n] = is[n] || !b.Not
		}
	}
	fill := func(a api.Atom) {
		for i, t := range a.Args {
			if t.Var && !is[t.N] {
				a.Args[i].Var = false
			}
		}
	}
	fill(c.Head)
	for _, b := range c.Body {
		fill(b.A)
	}
	return c
}

// bytesAreTold holds Of what bytes say against the document; which error has it, how many facts come to those that are given, and was it tried by all that could come?
func bytesAreTold(t testing.TB, b []byte, symbols int) (e api.Errno, beyond int, byAll bool) {
	t.Helper()
	l, given := saidBy(b, symbols)
	if e := wrong(l, given); e != api.OK {
		for _, most := range []int{0, len(given), math.MaxInt} {
			refuses(t, "as bytes say", l, given, most, e)
			refuses(t, "as bytes say", l, given, -1-most, api.ErrArg)
		}
		return e, 0, false
	}
	want := told(l, given)
	asTold(t, "as bytes say", l, given, want)
	follows(t, l, given[len(given)/2:], given[:len(given)/2])
	sets, byAll := tried(l, given)
	if byAll && (len(sets) != 1 || !sets[0].is(want)) {
		t.Fatalf("the test itself is wrong: %v, facts %v: %v, not %v", l, given, sets, want)
	}
	return api.OK, len(want) - len(setOf(given)), byAll
}

// hasNotOfHead: is something Not that may come?
func hasNotOfHead(l []api.Clause) bool {
	return slices.ContainsFunc(l, func(c api.Clause) bool {
		return slices.ContainsFunc(c.Body, func(b api.Lit) bool {
			return b.Not && slices.ContainsFunc(l, func(d api.Clause) bool { return d.Head.Pred == b.A.Pred })
		})
	})
}

func TestManyBytesByChance(t *testing.T) {
	g := rand.New(rand.NewSource(152))
	errs, count, all, levels := map[api.Errno]int{}, map[int]int{}, 0, 0
	for range 6000 {
		b := make([]byte, 20+g.Intn(160))
		g.Read(b)
		e, n, byAll := bytesAreTold(t, b, 4)
		errs[e]++
		if e != api.OK {
			continue
		}
		count[min(n, 4)]++
		if byAll && n > 0 {
			all++
		}
		if l, _ := saidBy(b, 4); n > 0 && hasNotOfHead(l) {
			levels++
		}
	}
	if errs[api.ErrArity] < 100 || errs[api.ErrSafe] < 100 || errs[api.ErrStrat] < 30 || count[0] < 400 || count[1] < 400 || count[4] < 500 || all < 500 || levels < 1000 {
		t.Errorf("the test itself is wrong: errors %v, facts beyond %v, all that could come tried %d, of several levels %d", errs, count, all, levels)
	}
}

func TestMoreBytesByChance(t *testing.T) {
	g := rand.New(rand.NewSource(153))
	many := 0
	for range 1500 {
		b := make([]byte, 200+g.Intn(200))
		g.Read(b)
		b[0] = 5 + b[0]%3
		if _, n, _ := bytesAreTold(t, b, 9); n >= 12 {
			many++
		}
	}
	if many < 60 {
		t.Errorf("the test itself is wrong: %d have many more facts", many)
	}
}

// P15.2: the order of clauses and of facts says nothing, nor what is there twice.
func TestTheOrderSaysNothing(t *testing.T) {
	g := rand.New(rand.NewSource(154))
	count := map[api.Errno]int{}
	for range 2000 {
		b := make([]byte, 60+g.Intn(100))
		g.Read(b)
		l, given := saidBy(b, 4)
		if wrong(l, given) != api.OK || len(l) == 0 || len(given) == 0 {
			continue
		}
		const most = 20
		all, e := model.Of(l, given, most)
		count[e]++
		for range 3 {
			l, given = append(l, l[g.Intn(len(l))]), append(given, given[g.Intn(len(given))])
			g.Shuffle(len(l), func(i, k int) { l[i], l[k] = l[k], l[i] })
			g.Shuffle(len(given), func(i, k int) { given[i], given[k] = given[k], given[i] })
			if e != api.OK {
				refuses(t, "P15.2: in another order", l, given, most, e)
			} else {
				answers(t, "P15.2: in another order", l, given, most, setOf(all))
			}
		}
	}
	if count[api.OK] < 300 || count[api.ErrMany] < 100 {
		t.Errorf("the test itself is wrong: %v", count)
	}
	for _, e := range few {
		l, given := program(e.program), facts(e.given)
		all, _ := model.Of(l, given, 100)
		for range 10 {
			g.Shuffle(len(l), func(i, k int) { l[i], l[k] = l[k], l[i] })
			g.Shuffle(len(given), func(i, k int) { given[i], given[k] = given[k], given[i] })
			answers(t, "P15.2: in another order: "+e.what, l, given, 100, setOf(all))
		}
	}
}

// Many facts, at several levels.
func TestManyFacts(t *testing.T) {
	const n = 300
	steps, ones := each(n, "e(%d, %d)."), each(n+1, "n(%d).")
	for _, e := range []struct{ what, program, given string }{
		{"ways, and what they do not come to", "w(X) :- start(X), not shut(X). w(Y) :- w(X), e(X, Y), not shut(Y). shut(X) :- lock(X), not key(X). cut(X) :- n(X), not w(X).", steps + ones + "start(0). start(100). lock(50). lock(150). lock(200). key(150)."},
		{"which have no next one, and all that lead there", "has(X) :- e(X, Y). end(X) :- n(X), not has(X). to(X) :- end(X). to(X) :- e(X, Y), to(Y). r(X) :- n(X), not to(X).", strings.Replace(steps, "e(100, 101).", "e(100, 0).", 1) + ones},
		{"all at once", "p(X) :- n(X), not q(X). q(X) :- n(X), not r(X). r(X) :- e(X, Y), not s(Y).", steps + ones + "s(1). s(7). s(300)."},
		{"pairs", "near(X, Y) :- e(X, Y). near(X, Z) :- e(X, Y), e(Y, Z). far(X, Y) :- m(X), m(Y), not near(X, Y), not near(Y, X), not same(X, Y). same(X, X) :- m(X).", steps + each(30, "m(%d).")},
	} {
		l, given := program(e.program), facts(e.given)
		want := grown(l, given)
		answers(t, e.what, l, given, len(want), want)
		refuses(t, e.what, l, given, len(want)-1, api.ErrMany)
		if len(want) == len(given) {
			t.Errorf("the test itself is wrong: %s", e.what)
		}
	}
	l := program(each(399, "c%d(X) :- c%d(X), not no%d(X). "))
	l = append(l, program("no2(X) :- c399(X).")...)
	given := append(facts(each(1500, "n(%d).")), facts("c399(a). c399(b). no202(a).")...) // so c200 is not so of a, nor c0 of b
	want := setOf(slices.Concat(given, facts("no2(a). no2(b). "+each(399, "c%d(b).")), facts(each(399, "c%d(a)."))[201:]))
	delete(want, keyOf(facts("c0(b).")[0]))
	answers(t, "a chain beside many", l, given, len(want), want)
	refuses(t, "a chain beside many", l, given, len(want)-1, api.ErrMany)
}

// R1: where far more heads come of clauses than may be, at whatever level, that is told.
func TestFarMoreHeadsThanMayBe(t *testing.T) {
	const n = 1900
	ones := facts(each(n, "q(%d)."))
	wide := "p(A, B, C, D, E, F) :- q(A), q(B), q(C), q(D), q(E), q(F)"
	for _, text := range []string{
		wide + ".",
		wide + ", not r(A). r(X) :- s(X).",
		wide + ", not r(F, A). r(X, X) :- s(X). u(X) :- q(X), not p(X, X, X, X, X, X).",
		wide + ", not r. r :- s. s :- not u. u :- q(1). v(X) :- q(X), not p(X, 1, 2, 3, 4, X).",
		"v(X) :- q(X), not p(X, 1, 2, 3, 4, X). s :- not u. r :- s. u :- q(1). " + wide + ", not r.",
	} {
		l := program(text)
		if e := wrong(l, nil); e != api.OK {
			t.Fatalf("the test itself is wrong: %s: %v", text, e)
		}
		for _, most := range []int{n, n + 2, 2000, 20000} {
			refuses(t, text, l, ones, most, api.ErrMany)
		}
	}
	for _, e := range []struct{ program, form string }{ // what is Not leaves few of them, or none
		{wide + ", not r. r :- s. s :- q(1).", "r. s."},
		{"p(A, B, C, D, E, F) :- q(B), q(C), q(D), q(E), q(F), q(A), not r(A). r(X) :- s(X). s(X) :- q(X), not u(X).", each(n, "r(%d). ") + each(n, "s(%d). ")},
		{"p(A, B) :- q(A), q(B), not r(A), not r(B). r(X) :- q(X), not u(X). u(7). u(1899).", "u(7). u(1899). p(7, 7). p(7, 1899). p(1899, 7). p(1899, 1899). " + strings.Replace(strings.Replace(each(n, "r(%d). "), "r(7). ", "", 1), "r(1899). ", "", 1)},
	} {
		l := program(e.program)
		want := setOf(append(slices.Clip(ones), facts(strings.ReplaceAll(strings.ReplaceAll(e.form, "r(%d)", "r"), "s(%d)", "s"))...))
		answers(t, e.program, l, ones, len(want), want)
		refuses(t, e.program, l, ones, len(want)-1, api.ErrMany)
	}
}

// roomy is a program each list of which has room behind its end, where something stands.
func roomy(l []api.Clause) []api.Clause {
	other := program("w(z, Z) :- x(Z), not y(z).")[0]
	terms := func(a api.Atom) api.Atom {
		return api.Atom{Pred: a.Pred, Args: append(slices.Clone(a.Args), other.Head.Args...)[:len(a.Args)]}
	}
	var m []api.Clause
	for _, c := range l {
		d := api.Clause{Head: terms(c.Head)}
		for _, b := range c.Body {
			d.Body = append(d.Body, api.Lit{Not: b.Not, A: terms(b.A)})
		}
		d.Body = append(d.Body, other.Body...)[:len(c.Body)]
		m = append(m, d)
	}
	return append(m, other)[:len(l)]
}

// roomyFacts are facts with the same.
func roomyFacts(l []api.Fact) []api.Fact {
	var m []api.Fact
	for _, f := range l {
		m = append(m, api.Fact{Pred: f.Pred, Args: append(slices.Clone(f.Args), 77, 78)[:len(f.Args)]})
	}
	return append(m, facts("z(z).")...)[:len(l)]
}

// whole is a text of what is handed in, with what stands behind the ends of its lists.
func whole(l []api.Clause, given []api.Fact) string {
	var b strings.Builder
	atom := func(a api.Atom) { fmt.Fprint(&b, a.Pred, len(a.Args), a.Args[:cap(a.Args)], ";") }
	for _, c := range l[:cap(l)] {
		atom(c.Head)
		for _, lit := range c.Body[:cap(c.Body)] {
			fmt.Fprint(&b, lit.Not)
			atom(lit.A)
		}
		fmt.Fprint(&b, len(c.Body), "\n")
	}
	for _, f := range given[:cap(given)] {
		fmt.Fprint(&b, f.Pred, len(f.Args), f.Args[:cap(f.Args)], "\n")
	}
	return b.String()
}

// R3, R5: what is handed in is not changed, and the same is answered each time.
func TestNothingIsChanged(t *testing.T) {
	for _, e := range []struct{ program, given string }{
		{"p(X) :- q(X), not r(X). r(X) :- s(X).", "q(b). s(a). q(a). q(b)."},
		{"p(X, Z) :- p(X, Y), p(Y, Z), not q(X). q(X) :- r(X, Y), not p(b, c). p(c, b) :- r(b, c).", "p(c, d). p(b, c). p(a, b). r(b, a)."},
		{"u(X) :- n(X), not p(X, X). p(X, Z) :- e(X, Y), e(Y, Z), not q(X). q(X) :- n(X), not e(X, X).", each(700, "e(%d, %d).") + "n(8). n(7)."},
		{"p(A, B, C, D, E, F) :- q(A), q(B), q(C), q(D), q(E), q(F), not s(A). s(A) :- r(A).", each(50, "q(%d).") + "r(3)."},
		{"", "q(b). q(a). p(a)."},
		{"p(X) :- q(X), not p(X).", "q(b). q(a)."},
		{"p(X) :- q(X). r(Y) :- not r.", "q(b). q(a)."},
		{"p(X) :- q(X), not r(X).", "q(b). p. q(a)."},
	} {
		for _, most := range []int{-1, 0, 3, 3000} {
			l, given := roomy(program(e.program)), roomyFacts(facts(e.given))
			kept := whole(l, given)
			all, errno := model.Of(l, given, most)
			for range 3 {
				if again, e := model.Of(l, given, most); e != errno || !slices.EqualFunc(again, all, func(f, g api.Fact) bool { return atoms.Compare(f, g) == 0 }) {
					t.Errorf("R5: Of(%s, %s, %d): %s, %v, and again %s, %v", short(l), short(given), most, short(all), errno, short(again), e)
				}
			}
			if got := whole(l, given); got != kept {
				t.Errorf("R3: what was handed in is changed: %s, not %s", short(got), short(kept))
			}
		}
	}
}

// R3: what is answered is new memory, each list of its own; nothing of what is handed in is kept.
func TestWhatIsAnsweredIsItsOwn(t *testing.T) {
	for _, text := range []string{"", "p(X) :- q(X), not r(X). r(X) :- s(X).", "p(X) :- q(X). z.", "p(X) :- z(X)."} {
		l, given := program(text), roomyFacts(facts("q(a). q(b). s(b). q(a)."))
		want := told(l, given)
		one, two := answers(t, "the first", l, given, 10, want), answers(t, "the second", l, given, 10, want)
		kept := whole(l, given)
		for i := range one {
			for k := range one[i].Args {
				one[i].Args[k] = 999
			}
			_ = append(one[i].Args, 998, 997)
			one[i].Pred = 996
		}
		_ = append(one, api.Fact{Pred: 995})
		if got := whole(l, given); got != kept {
			t.Errorf("R3: what is answered is memory of what was handed in: %s, not %s", short(got), short(kept))
		}
		answers(t, "what was answered ahead is changed", l, given, 10, want)
		for _, c := range l {
			clear(c.Head.Args)
			clear(c.Body)
		}
		for _, f := range given {
			clear(f.Args)
		}
		clear(given)
		if !setOf(two).is(want) {
			t.Errorf("R3: what was handed in is kept: %v", two)
		}
		for i := range two {
			had := short(slices.Concat(two[:i], two[i+1:]))
			for k := range two[i].Args {
				two[i].Args[k] = 999
			}
			two[i].Args = append(two[i].Args, 998)
			if got := short(slices.Concat(two[:i], two[i+1:])); got != had {
				t.Errorf("R3: two lists of an answer hang together: %s, not %s", got, had)
			}
		}
	}
}

// R5: nothing of one call stays for the next one.
func TestCallsDoNotHangTogether(t *testing.T) {
	l := program("p(X) :- q(X), not r(X). r(X) :- s(X). u(X, Y) :- p(X), p(Y).")
	ones, nots := facts(each(12, "q(%d).")), facts(each(12, "s(%d)."))
	for i := range ones {
		n, given := i+1, slices.Clip(ones[:i+1])
		answers(t, "one more", l, given, 2*n+n*n, told(l, given))
		refuses(t, "one more, and too many", l, given, 2*n+n*n-1, api.ErrMany)
		given = append(given, nots[i])
		answers(t, "one less", l, given, 2*n+1+i*i, told(l, given))
		refuses(t, "one less, and too many", l, given, 2*n+i*i, api.ErrMany)
		refuses(t, "no levels", append(slices.Clip(l), program("s(X) :- p(X).")...), given, 1000, api.ErrStrat)
	}
}

// R1, R3: empty lists are no lists.
func TestEmptyLists(t *testing.T) {
	for _, l := range [][]api.Clause{nil, {}, make([]api.Clause, 0, 4)} {
		for _, given := range [][]api.Fact{nil, {}, make([]api.Fact, 0, 4)} {
			asTold(t, "nothing", l, given, set{})
		}
	}
	empty := []api.Clause{{Head: api.Atom{Args: []api.Term{}}, Body: []api.Lit{}}}
	asTold(t, "empty lists", empty, nil, setOf([]api.Fact{{}}))
	asTold(t, "empty lists, and a fact", empty, []api.Fact{{Args: []uint32{}}, {}}, setOf([]api.Fact{{}}))
}

// R1: what is far too much ends too.
func TestVeryLargeOnes(t *testing.T) {
	const n = 1 << 20
	long := api.Atom{Pred: 7, Args: make([]api.Term, n)}
	given := []api.Fact{{Pred: 7, Args: make([]uint32, n)}}
	for what, e := range map[string]struct {
		l []api.Clause
		e api.Errno
	}{
		"very many clauses": {make([]api.Clause, n), api.ErrMany},
		"a very long head":  {[]api.Clause{{Head: long}}, api.ErrForm},
		"a very long body":  {[]api.Clause{{Body: make([]api.Lit, n)}}, api.ErrForm},
		"a very long atom":  {[]api.Clause{{}, {Body: []api.Lit{{A: long}}}}, api.ErrForm},
		"one that is Not":   {[]api.Clause{{}, {Body: []api.Lit{{Not: true, A: long}}}}, api.ErrForm},
		"a very long fact":  {nil, api.ErrArity},
	} {
		refuses(t, what, e.l, given, math.MaxInt, e.e)
		refuses(t, what, e.l, given, 0, e.e)
		refuses(t, what, e.l, given, math.MinInt, api.ErrArg)
	}
	many := make([]api.Fact, n/4)
	for i := range many {
		many[i] = api.Fact{Pred: 1, Args: []uint32{uint32(len(many) - i)}}
	}
	most := answers(t, "very many facts", nil, many, len(many), setOf(many))
	refuses(t, "very many facts, and one more", nil, append(most, api.Fact{}), len(many), api.ErrMany)
	answers(t, "one fact very many times", program("p :- not q."), make([]api.Fact, n), 2, setOf(append(facts("p."), api.Fact{})))
}

func FuzzAsTold(f *testing.F) {
	f.Add([]byte{})
	f.Add([]byte{2, 1, 9, 9, 0, 2, 2, 0, 9, 0, 0, 1, 9, 9, 0, 0, 0, 1, 9, 0, 1, 2, 0, 9, 0, 0, 0, 1, 0, 2})
	f.Add([]byte{3, 5, 9, 0, 2, 2, 0, 9, 0, 0, 4, 9, 0, 0, 3, 9, 0, 2, 2, 0, 9, 0, 0, 1, 9, 0, 0, 2, 9, 0, 1, 2, 0, 9, 0, 0, 0, 0, 0, 1})
	f.Fuzz(func(t *testing.T, b []byte) { bytesAreTold(t, b[:min(len(b), 400)], 4) })
}
