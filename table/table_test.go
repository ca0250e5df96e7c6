package table_test

import (
	"fmt"
	"math"
	"math/rand"
	"slices"
	"strings"
	"testing"

	"bailey/api"
	"bailey/atoms"
	"bailey/model"
	"bailey/query"
	"bailey/table"
)

// refuses says that Ask has an error, and nothing else.
func refuses(t testing.TB, what string, l []api.Clause, given []api.Fact, a api.Atom, most int, e api.Errno) {
	t.Helper()
	if out, tables, got := table.Ask(l, given, a, most); got != e || len(out) > 0 || tables != 0 {
		t.Fatalf("P17.1, R2: %s: Ask(%s, %s, %v, %d): %s, %d, %v, not none, 0, %v", what, short(l), short(given), a, most, short(out), tables, got, e)
	}
}

// same: are two lists of facts?
func same(l, m []api.Fact) bool {
	return slices.EqualFunc(l, m, func(f, g api.Fact) bool { return atoms.Compare(f, g) == 0 })
}

// isHead: has a clause a predicate as its head?
func isHead(l []api.Clause, pred uint32) bool {
	return slices.ContainsFunc(l, func(c api.Clause) bool { return c.Head.Pred == pred })
}

// answered says that an answer is what is wanted.
func answered(t testing.TB, what string, l []api.Clause, given []api.Fact, a api.Atom, most int, want []api.Fact) (out []api.Fact, tables int) {
	t.Helper()
	out, tables, e := table.Ask(l, given, a, most)
	if e != api.OK || !same(out, want) {
		t.Fatalf("P17.1: %s: Ask(%s, %s, %v, %d): %s, %v, not %s", what, short(l), short(given), a, most, short(out), e, short(want))
	}
	if tables < 1 {
		t.Fatalf("P17.1: %s: Ask(%s, %s, %v, %d): %d tables", what, short(l), short(given), a, most, tables)
	}
	if tables > 1 && !isHead(l, a.Pred) {
		t.Fatalf("P17.2: %s: Ask(%s, %s, %v, %d): %d tables", what, short(l), short(given), a, most, tables)
	}
	return out, tables
}

// limited says that an answer is what is wanted, or that there are too many facts.
func limited(t testing.TB, what string, l []api.Clause, given []api.Fact, a api.Atom, most int, want []api.Fact) (refused bool) {
	t.Helper()
	if _, _, e := table.Ask(l, given, a, most); e != api.ErrMany {
		answered(t, what, l, given, a, most, want)
		return false
	}
	refuses(t, what, l, given, a, most, api.ErrMany)
	return true
}

// asTold holds Ask against what a model has, for each most that could matter.
func asTold(t testing.TB, what string, l []api.Clause, given []api.Fact, a api.Atom, all set) {
	t.Helper()
	n, have, want := len(all), len(setOf(given)), matched(all, a)
	for _, most := range []int{n, n + 1, 2*n + 1, math.MaxInt} {
		answered(t, what, l, given, a, most, want)
	}
	for _, most := range []int{n - 1, n / 2, have, have - 1, have / 2, 1, 0} {
		if most >= 0 && most < n {
			limited(t, what, l, given, a, most, want)
		}
	}
	for _, most := range []int{-1, -n - 1, math.MinInt} {
		refuses(t, what, l, given, a, most, api.ErrArg)
	}
}

func x(n uint32) api.Term { return api.Term{Var: true, N: n} }
func s(n uint32) api.Term { return api.Term{N: n} }

// someTerms are symbols of clauses and facts, one that is none of them, and variables.
func someTerms(l []api.Clause, given []api.Fact) (terms []api.Term) {
	of := symbols(l, given)
	for _, n := range of[:min(len(of), 7)] {
		terms = append(terms, s(n))
	}
	return append(terms, s(1<<31), x(0), x(15), x(7))
}

func TestTheDocumentsExample(t *testing.T) {
	l, given := program("p(X, Z) :- p(X, Y), e(Y, Z). p(X, Y) :- e(X, Y)."), facts("e(a, b). e(b, c). e(d, e).")
	all := setOf(append(facts("p(a, b). p(b, c). p(d, e). p(a, c)."), given...))
	answered(t, "the example", l, given, question("p(a, X)"), 7, facts("p(a, b). p(a, c)."))
	asTold(t, "the example", l, given, question("p(a, X)"), all)
	for _, a := range questions(lengths(l, given), someTerms(l, given)) {
		asTold(t, "the example", l, given, a, all)
	}
}

// asked are questions, and their answers.
var asked = []struct{ what, program, given, question, answer string }{
	{"nothing", "", "", "p(X)", ""},
	{"nothing, of no Args", "", "", "p", ""},
	{"a fact", "", "p(a). p(b).", "p(a)", "p(a)."},
	{"facts", "", "p(b). p(a). q(a). p(b).", "p(X)", "p(a). p(b)."},
	{"one variable twice", "", "p(b, b). p(a, b). p(a, a).", "p(X, X)", "p(a, a). p(b, b)."},
	{"no body", "p(a). p(c).", "p(b).", "p(X)", "p(a). p(b). p(c)."},
	{"no body, another one", "p(a). p(c).", "p(b).", "p(d)", ""},
	{"of no Args", "p :- q. q :- r.", "r.", "p", "p."},
	{"not, of no Args", "p :- not q. q :- r.", "r.", "p", ""},
	{"not, of no Args, nothing below", "p :- not q. q :- r.", "", "p", "p."},
	{"a head with one variable twice", "p(X, X) :- q(X).", "q(a). q(b).", "p(a, Y)", "p(a, a)."},
	{"a head with one variable twice, two symbols", "p(X, X) :- q(X).", "q(a). q(b).", "p(a, b)", ""},
	{"a question with one variable twice", "p(X, Y) :- q(X), r(Y).", "q(a). q(b). r(b). r(c).", "p(X, X)", "p(b, b)."},
	{"a question and a head with such", "p(X, Y, X, Y) :- q(X), r(Y).", "q(a). q(b). r(b). r(c).", "p(X, X, Y, Y)", "p(b, b, b, b)."},
	{"a question that makes all one", "p(X, Y, Z) :- q(X), r(Y), q(Z).", "q(a). q(b). r(b). r(c).", "p(X, X, X)", "p(b, b, b)."},
	{"a symbol in the head", "p(a, X) :- q(X). p(b, X) :- r(X).", "q(a). r(b). r(a).", "p(Y, a)", "p(a, a). p(b, a)."},
	{"a symbol in the head, where a variable stands twice", "p(a, X) :- q(X). p(b, X) :- r(X).", "q(a). q(b). r(a).", "p(Y, Y)", "p(a, a)."},
	{"two symbols in the head, where a variable stands twice", "p(a, b) :- q(X). p(b, b) :- q(a).", "q(a).", "p(Y, Y)", "p(b, b)."},
	{"a symbol in the body", "p(X) :- q(a, X), not r(X, b). r(X, Y) :- s(Y, X).", "q(a, a). q(a, b). q(b, c). s(b, a).", "p(X)", "p(b)."},
	{"a way on", "p(X, Y) :- e(X, Y). p(X, Z) :- e(X, Y), p(Y, Z).", "e(a, b). e(b, c). e(c, a). e(d, a).", "p(b, X)", "p(b, a). p(b, b). p(b, c)."},
	{"a way back", "p(X, Y) :- e(X, Y). p(X, Z) :- e(X, Y), p(Y, Z).", "e(a, b). e(b, c). e(d, a). e(c, f).", "p(X, c)", "p(a, c). p(b, c). p(d, c)."},
	{"a way round", "p(X, Y) :- e(X, Y). p(X, Z) :- p(X, Y), p(Y, Z).", "e(a, b). e(b, c). e(c, a). e(d, a).", "p(X, X)", "p(a, a). p(b, b). p(c, c)."},
	{"alike in one generation", "sg(X, Y) :- f(X, Y). sg(X, Y) :- up(X, U), sg(U, V), down(V, Y).", "f(r, r). up(a, r). up(b, r). up(c, a). up(d, b). down(r, a). down(r, b). down(a, c). down(b, d).", "sg(c, Y)", "sg(c, c). sg(c, d)."},
	{"ways past what is shut", "w(X) :- start(X). w(Y) :- w(X), e(X, Y), not shut(Y). shut(X) :- lock(X), not key(X).", "start(a). e(a, b). e(b, c). e(a, d). e(d, f). lock(b). lock(d). key(d).", "w(X)", "w(a). w(d). w(f)."},
	{"one way past what is shut", "w(X) :- start(X). w(Y) :- w(X), e(X, Y), not shut(Y). shut(X) :- lock(X), not key(X).", "start(a). e(a, b). e(b, c). e(a, d). e(d, f). lock(b). lock(d). key(d).", "w(c)", ""},
	{"what is Not comes of what goes round", "cut(X, Y) :- n(X), n(Y), not p(X, Y). p(X, Y) :- e(X, Y). p(X, Z) :- e(X, Y), p(Y, Z).", "n(a). n(b). n(c). e(a, b). e(b, a). e(b, c).", "cut(X, a)", "cut(c, a)."},
	{"what is Not has other questions", "p(X) :- q(X, Y), not r(Y, X). r(X, Y) :- s(X, Z), r(Z, Y). r(X, X) :- t(X).", "q(a, b). q(a, c). q(d, b). s(b, c). s(c, a). t(a). t(c).", "p(X)", "p(d)."},
	{"a Not of one symbol", "p(X) :- q(X), not r(a). r(X) :- s(X), not u(X).", "q(b). q(c). s(a). u(a).", "p(b)", "p(b)."},
	{"a Not of one symbol, not so", "p(X) :- q(X), not r(a). r(X) :- s(X), not u(X).", "q(b). q(c). s(a). u(b).", "p(b)", ""},
	{"given beside what comes", "p(X) :- q(X), not r(X). r(X) :- s(X).", "q(a). q(b). r(b). p(c). s(d).", "p(X)", "p(a). p(c)."},
	{"given, of what is Not", "p(X) :- q(X), not r(X). r(X) :- s(X).", "q(a). q(b). r(b). s(d).", "p(b)", ""},
	{"no body, of what is Not", "p(X) :- q(X), not r(X). r(b). q(b). q(a).", "", "p(X)", "p(a)."},
	{"no body, and a body", "p(X) :- q(X), not r(X). r(b). r(X) :- s(X). q(b). q(a). q(c). s(c).", "", "p(X)", "p(a)."},
}

func TestQuestionsAndAnswers(t *testing.T) {
	for _, e := range asked {
		l, given, a, want := program(e.program), facts(e.given), question(e.question), facts(e.answer)
		if wrong(l, given, a) != api.OK {
			t.Fatalf("the test itself is wrong: %s", e.what)
		}
		all := told(l, given)
		if !same(matched(all, a), rising(want)) {
			t.Fatalf("the test itself is wrong: %s: %v", e.what, matched(all, a))
		}
		asTold(t, e.what, l, given, a, all)
		for _, a := range questions(lengths(l, given), someTerms(l, given)) {
			answered(t, e.what, l, given, a, len(all), matched(all, a))
		}
	}
}

// rising are facts in their order.
func rising(l []api.Fact) []api.Fact { return slices.SortedFunc(slices.Values(l), atoms.Compare) }

// few are programs, facts, and what comes to them.
var few = []struct{ what, program, given, beyond string }{
	{"nothing", "", "", ""},
	{"no clauses", "", "p(b). q. p(a).", ""},
	{"no facts", "p(X) :- q(X), not r(X).", "", ""},
	{"no body", "p(a). p(a). q.", "q.", "p(a)."},
	{"one level", "p(X) :- q(X).", "q(a). q(b). r(c).", "p(a). p(b)."},
	{"one level that goes round", "w(X, Y) :- e(X, Y). w(X, Z) :- w(X, Y), e(Y, Z).", "e(a, b). e(b, c). e(b, d).", "w(a, b). w(b, c). w(b, d). w(a, c). w(a, d)."},
	{"not", "p(X) :- q(X), not r(X).", "q(a). q(b). r(b). r(c).", "p(a)."},
	{"not, of nothing", "p(X) :- q(X), not r(X).", "q(a).", "p(a)."},
	{"not alone", "p :- not q. r :- not s.", "s.", "p."},
	{"not, of two Args", "p(X, Y) :- q(X), q(Y), not r(Y, X). r(X, Y) :- s(X, Y).", "q(a). q(b). s(a, b).", "r(a, b). p(a, a). p(a, b). p(b, b)."},
	{"not, of one of a literal's", "p(X, Y) :- q(X, Y), not r(X). r(X) :- q(X, X).", "q(a, a). q(a, b). q(b, a).", "r(a). p(b, a)."},
	{"two levels, the higher one first", "p :- not q. q :- r.", "r.", "q."},
	{"two levels, the lower one first", "q :- r. p :- not q.", "r.", "q."},
	{"two levels, nothing below", "p :- not q. q :- r.", "", "p."},
	{"three levels", "a(X) :- n(X), not b(X). b(X) :- n(X), not c(X). c(X) :- n(X), not d(X).", "n(1). n(2). d(1).", "c(2). b(1). a(2)."},
	{"three levels, the lowest one first", "c(X) :- n(X), not d(X). b(X) :- n(X), not c(X). a(X) :- n(X), not b(X).", "n(1). n(2). d(1).", "c(2). b(1). a(2)."},
	{"three levels, the middle one first", "b(X) :- n(X), not c(X). a(X) :- n(X), not b(X). c(X) :- n(X), not d(X).", "n(1). n(2). d(1).", "c(2). b(1). a(2)."},
	{"what is not not so is so", "p(X) :- n(X), not np(X). np(X) :- n(X), not q(X).", "n(a). n(b). q(a). q(c).", "np(b). p(a)."},
	{"a level that a way leads up to", "p :- not q. r :- p. s :- r. u :- not s. q :- v.", "", "p. r. s."},
	{"a level that a way leads up to, not so", "p :- not q. r :- p. s :- r. u :- not s. q :- v.", "v.", "q. u."},
	{"which can't be come to", "w(X, Y) :- e(X, Y). w(X, Z) :- w(X, Y), e(Y, Z). far(X, Y) :- n(X), n(Y), not w(X, Y).", "n(a). n(b). n(c). e(a, b). e(b, c).", "w(a, b). w(b, c). w(a, c). far(a, a). far(b, b). far(c, c). far(b, a). far(c, b). far(c, a)."},
	{"ways past what is closed", "shut(X) :- lock(X), not key(X). w(X) :- start(X), not shut(X). w(Y) :- w(X), e(X, Y), not shut(Y).", "start(a). e(a, b). e(b, c). e(a, d). e(d, f). lock(b). lock(d). key(d).", "shut(b). w(a). w(d). w(f)."},
	{"two that come of each other, above a Not", "even(Y) :- odd(X), next(X, Y), not end(Y). odd(Y) :- even(X), next(X, Y), not end(Y). end(X) :- stop(X), not go(X).", "even(0). next(0, 1). next(1, 2). next(2, 3). next(3, 4). stop(3). stop(1). go(1).", "end(3). odd(1). even(2)."},
	{"the greatest", "less(X) :- v(X), v(Y), lt(X, Y). top(X) :- v(X), not less(X).", "v(1). v(2). v(3). lt(1, 2). lt(2, 3). lt(1, 3). lt(3, 4).", "less(1). less(2). top(3)."},
	{"all of something", "lacks(X) :- n(X), k(Y), not has(X, Y). full(X) :- n(X), not lacks(X).", "n(a). n(b). k(1). k(2). has(a, 1). has(a, 2). has(b, 2).", "lacks(b). full(a)."},
	{"one head of two levels' worth", "p(X) :- q(X). p(X) :- s(X), not r(X). r(X) :- u(X), not q(X).", "q(a). s(b). s(c). u(a). u(b).", "r(b). p(a). p(c)."},
	{"not, of two levels", "p(X) :- n(X), not q(X), not r(X). q(X) :- s(X). r(X) :- n(X), not q(X), not u(X).", "n(a). n(b). n(c). s(a). u(b).", "q(a). r(c). p(b)."},
	{"one Not twice", "p(X) :- n(X), not q(X), not q(X). q(X) :- s(X).", "n(a). n(b). s(a).", "q(a). p(b)."},
	{"what is so and what is not are one predicate's", "p(X) :- q(X, Y), not q(Y, X). q(X, Y) :- e(X, Y).", "e(a, b). e(b, a). e(a, c).", "q(a, b). q(b, a). q(a, c). p(a)."},
	{"given, of a head", "p(X) :- q(X), not r(X). r(X) :- s(X).", "q(a). q(b). q(c). s(a). r(b). p(b). p(d).", "r(a). p(c)."},
	{"given, all that comes", "p(X) :- q(X), not r(X). r(X) :- s(X).", "q(a). q(b). s(a). r(a). p(b).", ""},
	{"given, what would not come", "p(X) :- q(X), not r(X). r(X) :- s(X). u(X) :- p(X).", "q(a). s(a). p(a).", "r(a). u(a)."},
	{"given twice", "p(X) :- q(X), not r(X). r(X) :- s(X).", "q(a). q(a). s(a). q(b). s(a). q(b).", "r(a). p(b)."},
	{"what no clause has", "p(X) :- q(X), not r(X).", "z(a). q(a). y. r(b). x(a, b).", "p(a)."},
	{"symbols that clauses alone have", "p(a) :- not q(b). q(X) :- s(X). r(c). r(X) :- p(X). u(X) :- r(X), not p(X).", "", "p(a). r(c). r(a). u(c)."},
	{"a Not ahead of what holds it", "p(X) :- not r(X), q(X). r(X) :- not u(X), s(X).", "q(a). q(b). s(a). s(b). u(b).", "r(a). p(b)."},
	{"one clause twice", "p(X) :- q(X), not r(X). r(X) :- s(X). p(X) :- q(X), not r(X). r(X) :- s(X).", "q(a). q(b). s(a).", "r(a). p(b)."},
	{"what goes round below a Not", "p :- not q. q :- r. r :- q.", "", "p."},
	{"what goes round below a Not, and is so", "p :- not q. q :- r. r :- q. r :- s.", "s.", "q. r."},
}

func TestEveryQuestionAboutFewFacts(t *testing.T) {
	for _, e := range few {
		l, given := program(e.program), facts(e.given)
		all := setOf(slices.Concat(given, facts(e.beyond)))
		for _, as := range []set{told(l, given), grown(l, given)} {
			if !as.is(all) {
				t.Fatalf("the test itself is wrong: %s: %v, not %v", e.what, as, all)
			}
		}
		length := lengths(l, given)
		length[1<<30], length[1<<29] = 0, 2 // of which nothing is known
		for _, a := range questions(length, someTerms(l, given)) {
			asTold(t, e.what, l, given, a, all)
		}
	}
}

// What is wrong with a program or with facts is said ahead of what is wrong with a question.
func TestWhatMayNotBe(t *testing.T) {
	long := api.Clause{Head: api.Atom{Pred: 1, Args: make([]api.Term, 7)}}
	nine := api.Clause{Head: api.Atom{Pred: 1}, Body: make([]api.Lit, 9)}
	longFact := api.Fact{Pred: 7000, Args: make([]uint32, 7)}
	given := facts("p. q. r. s. q(a). p(a). p(a, a).") // of which no two lengths may be
	as := []api.Atom{question("p(X)"), question("p(X, Y)"), question("p"), {Pred: 1, Args: make([]api.Term, 7)}, {Pred: 1, Args: []api.Term{x(16)}}}
	for _, e := range []struct {
		what  string
		l     []api.Clause
		given []api.Fact
		e     api.Errno
	}{
		{"a long head", []api.Clause{long}, given, api.ErrForm},
		{"a long body", []api.Clause{nine}, given, api.ErrForm},
		{"a head that nothing holds", program("p(X)."), given, api.ErrSafe},
		{"a Not that nothing holds", program("p :- q, not r(X)."), given, api.ErrSafe},
		{"two lengths", program("p :- q. r :- p(a)."), given, api.ErrArity},
		{"not itself", program("p :- not p."), given, api.ErrStrat},
		{"not each other", program("p(X) :- q(X), not r(X). r(X) :- s(X), p(X)."), given, api.ErrStrat},
		{"no levels, far from the question", program("p(X) :- q(X). u :- not v. v :- u."), nil, api.ErrStrat},
		{"not safe, and no levels", program("p(X) :- not p(X)."), given, api.ErrSafe},
		{"many clauses", program(each(401, "p(%d).")), given, api.ErrMany},
		{"many clauses, each of them wrong", slices.Repeat([]api.Clause{nine, long}, 300), given, api.ErrMany},
		{"two lengths of facts", nil, given, api.ErrArity},
		{"two lengths of facts, far from the question", program("p(X) :- q(X)."), facts("z. z(a)."), api.ErrArity},
		{"a length that clauses do not have", program("p(X) :- q(X), not r(X)."), facts("p(a). r(a, b)."), api.ErrArity},
		{"a long fact", program("p(X) :- q(X)."), []api.Fact{longFact}, api.ErrArity},
	} {
		for _, a := range as {
			if got := wrong(e.l, e.given, api.Atom{Pred: 9999}); got != e.e {
				t.Fatalf("the test itself is wrong: %s: %v", e.what, got)
			}
			for _, most := range []int{0, 1, 7, 100, math.MaxInt} {
				refuses(t, e.what, e.l, e.given, a, most, e.e)
				refuses(t, e.what+", less than none", e.l, e.given, a, -1-most, api.ErrArg)
			}
		}
	}
}

func TestQuestionsThatMayNotBe(t *testing.T) {
	terms := func(n int, l ...api.Term) []api.Term { return append(l, make([]api.Term, n)...) }
	for _, e := range []struct {
		what, program, given string
		a                    api.Atom
		e                    api.Errno
	}{
		{"seven Args", "", "", api.Atom{Pred: 1, Args: terms(7)}, api.ErrForm},
		{"seven Args, of what has one", "p(X) :- q(X).", "p(a).", api.Atom{Pred: question("p").Pred, Args: terms(7)}, api.ErrForm},
		{"a variable that is none", "", "", api.Atom{Pred: 1, Args: []api.Term{x(16)}}, api.ErrForm},
		{"a variable that is none, the last one", "", "", api.Atom{Pred: 1, Args: terms(0, s(99), x(15), x(math.MaxUint32))}, api.ErrForm},
		{"a variable that is none, of what has another length", "p(X) :- q(X).", "", api.Atom{Pred: question("p").Pred, Args: terms(1, x(16))}, api.ErrForm},
		{"a head's predicate", "p(X) :- q(X), not r(X).", "", question("p"), api.ErrArity},
		{"a head's predicate, more Args", "p(X) :- q(X), not r(X).", "q(a).", question("p(X, Y)"), api.ErrArity},
		{"a body's predicate", "p(X) :- q(X), not r(X).", "", question("q(a, b)"), api.ErrArity},
		{"what is Not", "p(X) :- q(X), not r(X).", "", question("r"), api.ErrArity},
		{"a fact's", "", "p(a, b).", question("p(X)"), api.ErrArity},
		{"a fact's, beside clauses", "p(X) :- q(X).", "z. p(a).", question("z(a)"), api.ErrArity},
		{"what has no body", "p(a). p(b).", "", question("p(X, Y)"), api.ErrArity},
		{"of another predicate's clause", "p(X) :- q(X). u(X, X) :- v(X).", "q(a).", question("u(X)"), api.ErrArity},
	} {
		l, given := program(e.program), facts(e.given)
		if got := wrong(l, given, e.a); got != e.e {
			t.Fatalf("the test itself is wrong: %s: %v", e.what, got)
		}
		for _, most := range []int{0, 1, 100, math.MaxInt} {
			refuses(t, e.what, l, given, e.a, most, e.e)
			refuses(t, e.what+", less than none", l, given, e.a, -1-most, api.ErrArg)
		}
	}
	six := api.Fact{Pred: 7000, Args: []uint32{1, 2, 3, 4, 5, 5}}
	asTold(t, "as many Args, and as high a variable, as may be", nil, []api.Fact{six}, api.Atom{Pred: 7000, Args: []api.Term{x(15), x(14), s(3), x(0), x(13), x(13)}}, setOf([]api.Fact{six}))
	asTold(t, "nothing holds it", program("p(X) :- q(X)."), facts("q(a)."), question("p(Y)"), setOf(facts("q(a). p(a).")))
	asTold(t, "what neither clauses nor facts have", program("p(X) :- q(X)."), facts("q(a)."), question("z(Y, a, Y)"), setOf(facts("q(a). p(a).")))
}

// Symbols, predicates and variables of all numbers are as others.
func TestNumbersAtTheirEdges(t *testing.T) {
	const most = math.MaxUint32
	at := func(pred uint32, l ...api.Term) api.Atom { return api.Atom{Pred: pred, Args: l} }
	fact := func(pred uint32, l ...uint32) api.Fact { return api.Fact{Pred: pred, Args: l} }
	l := []api.Clause{
		{Head: at(0, x(15), s(most), x(0)), Body: []api.Lit{{A: at(most, x(15))}, {A: at(3, x(0))}, {Not: true, A: at(1, x(15))}}},
		{Head: at(1, x(0)), Body: []api.Lit{{A: at(3, x(0))}, {Not: true, A: at(2, x(0))}}},
		{Head: at(3, x(14)), Body: []api.Lit{{A: at(most, x(14))}}},
	}
	given := []api.Fact{fact(most, 0), fact(most, most), fact(most, 16), fact(2, 0), fact(2, most-1)}
	all := told(l, given)
	if len(all) != len(given)+3+2+3 {
		t.Fatalf("the test itself is wrong: %v", all)
	}
	for _, a := range questions(lengths(l, given), []api.Term{s(0), s(16), s(15), s(most), s(most - 1), x(0), x(15), x(14), x(1)}) {
		answered(t, "edges of numbers", l, given, a, len(all), matched(all, a))
		limited(t, "edges of numbers", l, given, a, len(all)-1, matched(all, a))
	}
}

// The largest clause, at all of its limits, has each kind of question.
func TestTheLargestClause(t *testing.T) {
	z := func(n int) api.Term { return x(uint32(n % 16)) }
	at := func(pred uint32, l ...api.Term) api.Atom { return api.Atom{Pred: pred, Args: l} }
	whole := api.Clause{Head: at(7, z(15), z(14), z(13), z(0), z(1), z(2))}
	l := []api.Clause{{Head: at(8, z(5), z(4), z(3), z(2), z(1), z(0)), Body: []api.Lit{{A: at(6, z(0), z(1), z(2), z(3), z(4), z(5))}}}, {Head: at(9, z(1), z(2), z(3), z(4), z(5), z(6)), Body: []api.Lit{{A: at(5, z(1), z(2), z(3), z(4), z(5), z(6))}}}}
	var given []api.Fact
	for i := range 8 {
		a := at(9, z(2*i), z(2*i+1), z(2*i+2), z(2*i+3), z(2*i+4), s(math.MaxUint32))
		is := i == 0 || i == 3 || i == 6
		if is {
			a.Pred = 8
		}
		whole.Body = append(whole.Body, api.Lit{Not: is, A: a})
		for k := range 2 {
			f := api.Fact{Pred: 5 + 4*uint32(k)}
			for _, t := range a.Args {
				if t.Var {
					t.N += 100 * (1 + uint32(k))
				}
				f.Args = append(f.Args, t.N)
			}
			if !is {
				given = append(given, f)
			}
		}
	}
	l = append(l, whole)
	for n := range 3 {
		switch n {
		case 1: // what is Not comes by one choice
			given = append(given, api.Fact{Pred: 6, Args: []uint32{math.MaxUint32, 104, 103, 102, 101, 100}})
		case 2: // a literal is missing, by the other one
			given = slices.DeleteFunc(given, func(f api.Fact) bool { return f.Pred == 9 && f.Args[0] == 202 })
		}
		all := grown(l, given)
		heads := matched(all, at(7, z(0), z(1), z(2), z(3), z(4), z(5)))
		if len(heads) != 2-n {
			t.Fatalf("the test itself is wrong: %v", heads)
		}
		for mask := range 64 {
			for _, by := range []uint32{100, 200} {
				a := at(7)
				for i, n := range []uint32{15, 14, 13, 0, 1, 2} {
					if mask>>i&1 == 1 {
						a.Args = append(a.Args, s(by+n))
					} else {
						a.Args = append(a.Args, x(n))
					}
				}
				answered(t, "the largest clause", l, given, a, len(all), matched(all, a))
			}
		}
	}
}

// R7: facts can be as many as may be, and clauses.
func TestAsManyAsMayBe(t *testing.T) {
	for _, text := range []string{"", "p(X) :- p(X).", "q(X) :- p(X), not p(X).", "q(X) :- p(X), not r(X). r(X) :- p(X).", "s(X) :- q(X). q(X) :- p(X), not r(X). r(X) :- p(X), not u(X)."} {
		l := program(text)
		for _, n := range []int{1, 2, 3, 10, 300} {
			given := facts(each(n, "p(%d)."))
			all := grown(l, given)
			for _, a := range []string{"p(X)", "q(X)", "r(X)", "s(X)", "p(1)", "q(0)", "r(2)", "s(0)"} {
				asTold(t, "as many facts as may be", l, given, question(a), all)
				asTold(t, "each twice", l, append(given, given...), question(a), all)
			}
		}
	}
	for _, form := range []string{"c%d(X) :- n(X), not c%d(X). ", "c%d(X) :- c%d(X). ", "c%d(X) :- n(X), c%d(X). ", "c0(X) :- n(X), not d%d(X). ", "c0(%d) :- c400(X), n(X). "} {
		l, given := program(each(400, form)), facts("n(a). n(b). n(c). c400(b).")
		below, e := model.Of(l, given, 5000)
		if e != api.OK {
			t.Fatalf("the test itself is wrong: %s: %v", form, e)
		}
		all := setOf(below)
		for _, a := range []string{"c0(X)", "c0(a)", "c0(b)", "c0(399)", "c1(X)", "c399(b)", "c400(X)", "c400(b)", "d7(X)", "n(X)"} {
			for range 2 {
				answered(t, "as many clauses as may be", l, given, question(a), len(all), matched(all, question(a)))
				limited(t, "as many clauses as may be", l, given, question(a), len(all)-1, matched(all, question(a)))
				slices.Reverse(l)
			}
			refuses(t, "one clause more", append(slices.Clip(l), program("x.")...), given, question(a), 5000, api.ErrMany)
		}
	}
}

// reach: which numbers below n can be come to from one, by one step at least, not through those that are shut?
func reach(n int, steps [][2]int, from int, shut func(int) bool) (to []bool) {
	to = make([]bool, n)
	for left := []int{from}; len(left) > 0; left = left[1:] {
		for _, e := range steps {
			if e[0] == left[0] && !to[e[1]] && !shut(e[1]) {
				to[e[1]], left = true, append(left, e[1])
			}
		}
	}
	return to
}

// graphs are of so many numbers.
func graphs(g *rand.Rand, n int) map[string][][2]int {
	by := map[string][][2]int{}
	at := g.Perm(n)
	for i := range n {
		by["a path"] = append(by["a path"], [2]int{i, min(i+1, n-1)})
		by["a path, in no order"] = append(by["a path, in no order"], [2]int{at[i], at[min(i+1, n-1)]})
		by["a ring, in no order"] = append(by["a ring, in no order"], [2]int{at[i], at[(i+1)%n]})
		by["by chance"] = append(by["by chance"], [2]int{g.Intn(n), g.Intn(n)}, [2]int{i, g.Intn(n)})
		by["parts"] = append(by["parts"], [2]int{i, i/7*7 + g.Intn(7)}, [2]int{i, i/7*7 + g.Intn(7)})
		by["a star"] = append(by["a star"], [2]int{at[0], at[i]}, [2]int{at[i], at[n/2]})
	}
	for what := range by {
		for i, e := range by[what] {
			by[what][i] = [2]int{min(e[0], n-1), min(e[1], n-1)}
		}
	}
	return by
}

// stepFacts is the text of facts of one predicate.
func stepFacts(pred string, steps [][2]int) string {
	var b strings.Builder
	for _, e := range steps {
		fmt.Fprintf(&b, "%s(%d, %d). ", pred, e[0], e[1])
	}
	return b.String()
}

// Ways through graphs, by all forms in which a program can tell of them: also where there are far more questions than can be asked one by one.
func TestWaysThroughGraphs(t *testing.T) {
	g := rand.New(rand.NewSource(171))
	const n = 60
	var numbers []uint32
	for _, f := range facts(each(n, "n(%d). ")) {
		numbers = append(numbers, f.Args[0])
	}
	for what, steps := range graphs(g, n) {
		to := make([][]bool, n)
		for i := range n {
			to[i] = reach(n, steps, i, func(int) bool { return false })
		}
		given := facts(stepFacts("e", steps) + each(n, "n(%d). "))
		for _, text := range []string{
			"p(X, Y) :- e(X, Y). p(X, Z) :- p(X, Y), e(Y, Z).",
			"p(X, Y) :- e(X, Y). p(X, Z) :- e(Y, Z), p(X, Y).",
			"p(X, Z) :- e(X, Y), p(Y, Z). p(X, Y) :- e(X, Y).",
			"p(X, Z) :- p(X, Y), p(Y, Z). p(X, Y) :- e(X, Y).",
			"s(X, Y) :- e(X, Y). p(X, Y) :- s(X, Y). p(X, Z) :- s(X, Y), p(Y, Z).",
			"p(X, Y) :- e(X, Y). p(X, Z) :- e(X, Y), r(Z, Y). r(X, Y) :- p(Y, X).",
			"p(X, Y) :- n(X), q(X, Y), n(Y). q(X, Y) :- e(X, Y). q(X, Z) :- p(X, Y), e(Y, Z), not x(Y).",
			"p(X, Y) :- n(X), n(Y), not cut(X, Y). cut(X, Y) :- n(X), n(Y), not q(X, Y). q(X, Y) :- e(X, Y). q(X, Z) :- q(X, Y), e(Y, Z).",
		} {
			l := program(text)
			if g.Intn(2) == 0 { // of clauses that bring nothing the tables grow larger, till there are too many
				l = append(l, program(each(15, "p(X, Y) :- z%d(X, Y). q(X, Y) :- z%d(Y, X). "))...)
			}
			one, other := g.Intn(n), g.Intn(n)
			from, into, round := fmt.Sprintf("p(%d, X)", one), fmt.Sprintf("p(X, %d)", other), "p(X, X)"
			pair := fmt.Sprintf("p(%d, %d)", one, other)
			var ways, froms, intos, rounds, pairs []api.Fact
			for i := range n {
				for k := range n {
					if !to[i][k] {
						continue
					}
					f := api.Fact{Pred: question(pair).Pred, Args: []uint32{numbers[i], numbers[k]}}
					ways = append(ways, f)
					for l, is := range map[*[]api.Fact]bool{&froms: i == one, &intos: k == other, &rounds: i == k, &pairs: i == one && k == other} {
						if is {
							*l = append(*l, f)
						}
					}
				}
			}
			what := what + ": " + text
			answered(t, what, l, given, question(from), math.MaxInt, rising(froms))
			answered(t, what, l, given, question(into), math.MaxInt, rising(intos))
			answered(t, what, l, given, question(pair), math.MaxInt, rising(pairs))
			if g.Intn(3) == 0 {
				answered(t, what, l, given, question(round), math.MaxInt, rising(rounds))
				answered(t, what, l, given, question("p(X, Y)"), math.MaxInt, rising(ways))
			}
		}
	}
}

// What is Not of what comes of the level itself, of all forms: it may be asked about only what is sure to be all.
func TestWaysPastWhatIsShut(t *testing.T) {
	g := rand.New(rand.NewSource(172))
	const n = 120
	for what, steps := range graphs(g, n) {
		start, locks, keys := g.Intn(n), g.Perm(n)[:40], g.Perm(n)[:60]
		shut := func(i int) bool { return slices.Contains(locks, i) && !slices.Contains(keys, i) }
		to := reach(n, steps, start, shut)
		given := facts(stepFacts("e", steps) + each(n, "n(%d). ") + fmt.Sprintf("start(%d). ", start))
		for _, i := range locks {
			given = append(given, facts(fmt.Sprintf("lock(%d).", i))...)
		}
		for _, i := range keys {
			given = append(given, facts(fmt.Sprintf("key(%d).", i))...)
		}
		for _, text := range []string{
			"w(Y) :- start(X), e(X, Y), not shut(Y). w(Y) :- w(X), e(X, Y), not shut(Y). shut(X) :- lock(X), not key(X).",
			"w(Y) :- v(X), e(X, Y), not shut(Y). v(X) :- start(X). v(X) :- w(X). shut(X) :- lock(X), not key(X).",
			"w(Y) :- v(X), s(X, Y), not shut(Y). s(X, Y) :- e(X, Y). v(X) :- start(X). v(X) :- w(X). shut(X) :- lock(X), not key(X).",
			"w(Y) :- not shut(Y), s(X, Y), v(X). s(X, Y) :- e(X, Y). v(X) :- start(X). v(X) :- w(X). shut(X) :- lock(X), not has(X). has(X) :- key(X), n(X).",
			"w(Y) :- v(X), open(X, Y). open(X, Y) :- e(X, Y), not shut(Y, X). v(X) :- start(X). v(X) :- w(X). shut(X, Z) :- lock(X), n(Z), not key(X).",
			"w(Y) :- v(X), open(X, Y). open(X, Y) :- s(X, Y), not shut(Y, X). s(X, Y) :- e(X, Y), v(X). v(X) :- start(X). v(X) :- w(X). shut(X, Z) :- lock(X), n(Z), not key(X).",
		} {
			l := program(text + " cut(X) :- n(X), not w(X).")
			var comes, cut []api.Fact
			for i := range n {
				f := facts(fmt.Sprintf("w(%d). cut(%d).", i, i))
				is := 1
				if to[i] {
					is = 0
					comes = append(comes, f[0])
				} else {
					cut = append(cut, f[1])
				}
				if g.Intn(12) == 0 {
					for k, q := range []string{"w(%d)", "cut(%d)"} {
						var want []api.Fact
						if is == k {
							want = f[k : k+1]
						}
						answered(t, what+": "+text, l, given, question(fmt.Sprintf(q, i)), math.MaxInt, want)
					}
				}
			}
			answered(t, what+": "+text, l, given, question("w(X)"), math.MaxInt, rising(comes))
			answered(t, what+": "+text, l, given, question("cut(X)"), math.MaxInt, rising(cut))
		}
	}
}

// saidBy are a program, mostly one that may be, facts of so many symbols, and a question, that bytes say.
func saidBy(b []byte, symbols int) (l []api.Clause, given []api.Fact, a api.Atom) {
	take := func() int {
		if len(b) == 0 {
			return 0
		}
		n := b[0]
		b = b[1:]
		return int(n)
	}
	length := []int{1, 2, 2, 0, 1, 2, 1}
	some := func(pred int) api.Atom {
		a := api.Atom{Pred: uint32(pred)}
		for range length[pred] {
			n := take()
			a.Args = append(a.Args, api.Term{Var: n%8 > 0, N: uint32(n / 8 % 3)})
		}
		if n := take(); n == 255 {
			a.Args = append(a.Args, api.Term{})
		}
		return a
	}
	a = some(take() % 7)
	if n := take(); n > 252 {
		a.Args = append(a.Args, api.Term{Var: true, N: uint32(n)})
	}
	for range take() % 8 {
		head := 1 + take()%6
		c := api.Clause{Head: some(head)}
		for range take() % 4 {
			switch n := take(); {
			case n > 252:
				c.Body = append(c.Body, api.Lit{Not: true, A: some(take() % 7)})
			case n > 247:
				c.Body = append(c.Body, api.Lit{A: some(take() % 7)})
			case n%5 < 2:
				c.Body = append(c.Body, api.Lit{Not: true, A: some(take() % head)})
			default:
				c.Body = append(c.Body, api.Lit{A: some(take() % (head + 1))})
			}
		}
		if take() < 252 {
			c = held(c)
		}
		l = append(l, c)
	}
	for len(b) > 0 {
		n := take()
		f := api.Fact{Pred: uint32(n % 12)}
		if f.Pred > 6 { // few of those that are heads
			f.Pred %= 3
		}
		for range length[f.Pred] {
			f.Args = append(f.Args, uint32(take()%symbols))
		}
		if n > 253 {
			f.Args = append(f.Args, 0)
		}
		given = append(given, f)
	}
	return l, given, a
}

// held is a clause with a symbol in the place of each variable that nothing holds.
func held(c api.Clause) api.Clause {
	var is [3]bool
	for _, b := range c.Body {
		for _, n := range atoms.Vars(b.A) {
			is[n] = is[n] || !b.Not
		}
	}
	fill := func(a api.Atom) {
		for i, t := range a.Args {
			if t.Var && !is[t.N] {
				a.Args[i].Var = false
			}
		}
	}
	fill(c.Head)
	for _, b := range c.Body {
		fill(b.A)
	}
	return c
}

// bytesAreTold holds Ask of what bytes say against the document; which error has it, how many answers, and how many facts come to those that are given?
func bytesAreTold(t testing.TB, b []byte, symbols int, model func([]api.Clause, []api.Fact) set) (e api.Errno, answers, beyond int) {
	t.Helper()
	l, given, a := saidBy(b, symbols)
	if e := wrong(l, given, a); e != api.OK {
		for _, most := range []int{0, len(given), math.MaxInt} {
			refuses(t, "as bytes say", l, given, a, most, e)
			refuses(t, "as bytes say", l, given, a, -1-most, api.ErrArg)
		}
		return e, 0, 0
	}
	all := model(l, given)
	asTold(t, "as bytes say", l, given, a, all)
	for i := range a.Args { // and what more of it, or less, is asked
		for _, term := range []api.Term{x(0), x(9), s(uint32(len(b) % symbols)), s(9)} {
			b := api.Atom{Pred: a.Pred, Args: slices.Clone(a.Args)}
			b.Args[i] = term
			answered(t, "as bytes say", l, given, b, len(all), matched(all, b))
		}
	}
	return api.OK, len(matched(all, a)), len(all) - len(setOf(given))
}

func TestManyBytesByChance(t *testing.T) {
	g := rand.New(rand.NewSource(173))
	errs, count, levels := map[api.Errno]int{}, map[int]int{}, 0
	for range 6000 {
		b := make([]byte, 20+g.Intn(160))
		g.Read(b)
		e, n, beyond := bytesAreTold(t, b, 4, told)
		errs[e]++
		if e != api.OK {
			continue
		}
		count[min(n, 4)]++
		if l, _, a := saidBy(b, 4); n > 0 && beyond > 2 && isHead(l, a.Pred) && hasNotOfHead(l) {
			levels++
		}
	}
	if errs[api.ErrForm] < 30 || errs[api.ErrArity] < 100 || errs[api.ErrSafe] < 100 || errs[api.ErrStrat] < 30 || count[0] < 400 || count[1] < 400 || count[4] < 300 || levels < 200 {
		t.Errorf("the test itself is wrong: errors %v, answers %v, of several levels %d", errs, count, levels)
	}
}

// hasNotOfHead: is something Not that may come?
func hasNotOfHead(l []api.Clause) bool {
	return slices.ContainsFunc(l, func(c api.Clause) bool {
		return slices.ContainsFunc(c.Body, func(b api.Lit) bool { return b.Not && isHead(l, b.A.Pred) })
	})
}

func TestMoreBytesByChance(t *testing.T) {
	g := rand.New(rand.NewSource(174))
	many := 0
	for range 700 {
		b := make([]byte, 200+g.Intn(200))
		g.Read(b)
		b[0] = 5 + b[0]%3
		if _, _, n := bytesAreTold(t, b, 9, grown); n >= 12 {
			many++
		}
	}
	if many < 15 {
		t.Errorf("the test itself is wrong: %d have many more facts", many)
	}
}

// byChance are a program of several levels, mostly about pairs, and facts of many symbols.
func byChance(g *rand.Rand, symbols int) (l []api.Clause, given []api.Fact) {
	var text strings.Builder
	for head := 3; head < 8; head++ {
		forms := []string{"h(X, Y) :- b(X, Y). ", "h(X, Z) :- b(X, Y), c(Y, Z). ", "h(X, Y) :- b(Y, X), u(X). ", "h(X, Z) :- b(X, Y), not d(X, Z), c(Y, Z). ", "h(X, Y) :- b(X, Y), not d(Y, X). ", "h(X, Y) :- b(X, Y), c(X, Y). ", "h(X, Y) :- b(X, Y), not d(Y, 3). ", "h(X, Y) :- b(X, Y), not d(X, X). ", "h(X, X) :- b(X, Y), c(Y, X). "}
		for range 1 + g.Intn(3) {
			form := forms[g.Intn(len(forms))]
			for _, of := range []struct {
				letter string
				below  int
			}{{"h(", head + 1}, {"b(", head + 1}, {"c(", head + 1}, {"d(", head}} {
				n := 1 + g.Intn(of.below-1)
				if of.letter == "h(" {
					n = head
				}
				form = strings.ReplaceAll(form, of.letter, fmt.Sprintf("f%d(", n))
			}
			text.WriteString(form)
		}
	}
	for i := range 2 * symbols {
		given = append(given, facts(fmt.Sprintf("f%d(%d, %d).", 1+i%2, g.Intn(symbols), g.Intn(symbols)))...)
		if g.Intn(8) == 0 {
			given = append(given, facts(fmt.Sprintf("f%d(%d, %d). u(%d).", 1+g.Intn(7), g.Intn(symbols), g.Intn(symbols), g.Intn(symbols)))...)
		}
	}
	return program(text.String()), given
}

// someQuestion is one about a predicate of such a program.
func someQuestion(g *rand.Rand, symbols int) api.Atom {
	terms := []string{"X", "Y", "X", fmt.Sprint(g.Intn(symbols)), fmt.Sprint(g.Intn(symbols)), fmt.Sprint(g.Intn(symbols))}
	return question(fmt.Sprintf("f%d(%s, %s)", 3+g.Intn(5), terms[g.Intn(6)], terms[g.Intn(6)]))
}

// Of many symbols there are far more questions than clauses.
func TestManySymbolsByChance(t *testing.T) {
	g := rand.New(rand.NewSource(175))
	many, levels := 0, 0
	for range 150 {
		l, given := byChance(g, 25)
		all := grown(l, given)
		for range 12 {
			a := someQuestion(g, 25)
			out, tables := answered(t, "of many symbols", l, given, a, len(all), matched(all, a))
			limited(t, "of many symbols", l, given, a, len(all)-1, matched(all, a))
			if tables > 100 {
				many++
			}
			if len(out) > 0 && tables > 3 && hasNotOfHead(l) {
				levels++
			}
		}
	}
	if many < 40 || levels < 200 {
		t.Errorf("the test itself is wrong: %d of many tables, %d of several levels", many, levels)
	}
}

// P15.2, P17.1: the order of clauses, of bodies and of facts says nothing, nor what is there twice.
func TestTheOrderSaysNothing(t *testing.T) {
	g := rand.New(rand.NewSource(176))
	count := 0
	for range 1500 {
		b := make([]byte, 60+g.Intn(120))
		g.Read(b)
		l, given, a := saidBy(b, 4)
		if wrong(l, given, a) != api.OK || len(l) == 0 || len(given) == 0 {
			continue
		}
		out, _, e := table.Ask(l, given, a, math.MaxInt)
		if e != api.OK {
			t.Fatalf("P17.1: Ask(%s, %s, %v): %v", short(l), short(given), a, e)
		}
		if count += min(len(out), 1); len(out) == 0 && g.Intn(3) > 0 {
			continue
		}
		for range 3 {
			l, given = append(l, l[g.Intn(len(l))]), append(given, given[g.Intn(len(given))])
			g.Shuffle(len(l), func(i, k int) { l[i], l[k] = l[k], l[i] })
			g.Shuffle(len(given), func(i, k int) { given[i], given[k] = given[k], given[i] })
			for _, c := range l {
				g.Shuffle(len(c.Body), func(i, k int) { c.Body[i], c.Body[k] = c.Body[k], c.Body[i] })
			}
			answered(t, "in another order", l, given, a, math.MaxInt, out)
		}
	}
	if count < 150 {
		t.Errorf("the test itself is wrong: %d have answers", count)
	}
}

// W3: from above and from below the same is found.
func TestFromAboveAndFromBelow(t *testing.T) {
	g := rand.New(rand.NewSource(177))
	for range 40 {
		l, given := byChance(g, 60)
		all, e := model.Of(l, given, 6000)
		for range 8 {
			if a := someQuestion(g, 60); e == api.OK {
				answered(t, "from below", l, given, a, 6000, query.Ask(all, a))
				answered(t, "from below", l, given, a, len(all), query.Ask(all, a))
			} else if out, tables, e := table.Ask(l, given, a, 6000); e != api.ErrMany || tables != 0 || len(out) > 0 {
				answered(t, "from below, where there is more", l, given, a, math.MaxInt, out)
			}
		}
	}
}

// What the question has no need of is not looked at: there could be far more of it than may be.
func TestWhatIsFarIsNotLookedAt(t *testing.T) {
	far := each(300, "e(%d, %d). ") + each(300, "n(%d). ")
	given := facts(far + "e(a, b). e(b, c). e(c, b). e(f, a). lock(c).")
	for _, e := range []struct{ program, question, answer string }{
		{"p(X, Y) :- e(X, Y). p(X, Z) :- p(X, Y), e(Y, Z).", "p(a, X)", "p(a, b). p(a, c)."},
		{"p(X, Y) :- e(X, Y). p(X, Z) :- e(X, Y), p(Y, Z).", "p(a, X)", "p(a, b). p(a, c)."},
		{"p(X, Y) :- e(X, Y). p(X, Z) :- p(X, Y), p(Y, Z).", "p(a, X)", "p(a, b). p(a, c)."},
		{"p(X, Y) :- e(X, Y). p(X, Z) :- e(X, Y), p(Y, Z).", "p(X, a)", "p(f, a)."},
		{"p(X, Y) :- e(X, Y). p(X, Z) :- p(X, Y), p(Y, Z). q(X) :- p(a, X), not shut(X). shut(X) :- p(X, Y), lock(X). r(X, Y) :- p(X, Y), p(Y, X).", "q(X)", "q(b)."},
		{"p(X, Y) :- e(X, Y). p(X, Z) :- p(X, Y), p(Y, Z). r(X, Y) :- p(X, Y). u(X) :- lock(X), not r(X, X). r(Y, X) :- n(X), n(Y).", "u(X)", ""},
		{"w(X, Y, Z, U, V, T) :- n(X), n(Y), n(Z), n(U), n(V), n(T). u(X) :- e(a, X), not w(1, 2, 3, 4, 5, X).", "u(X)", "u(b)."},
		{"w(X, Y, Z, U, V, T) :- n(X), n(Y), n(Z), n(U), n(V), n(T). u(X) :- lock(X).", "u(X)", "u(c)."},
		{"w(X, Y, Z, U, V, T) :- n(X), n(Y), n(Z), n(U), n(V), n(T).", "w(1, 2, 3, 4, 5, 5)", "w(1, 2, 3, 4, 5, 5)."},
		{"w(X, Y, Z) :- n(X), n(Y), e(X, Y), lock(Z).", "w(X, X, Y)", ""},
		{"w(a, X, X) :- lock(X). w(b, X, Y) :- n(X), n(Y).", "w(a, X, Y)", "w(a, c, c)."},
		{"w(a, X, c, X) :- lock(X). w(b, X, f, Y) :- n(X), n(Y).", "w(X, Y, X, Z)", ""},
		{"w(X, Y, X) :- n(X), n(Y). w(X, X, Y) :- lock(X), n(Y).", "w(1, X, 2)", ""},
		{"u(X) :- lock(X), v(X), not w(X, X). v(X) :- e(b, X). w(X, Y) :- e(X, Y), n(X).", "u(X)", "u(c)."},
		{"u(X, Y) :- v(X), e(X, Y), not w(X, Y). v(X) :- e(b, X). w(X, Y) :- n(X), n(Y), not none(X). w(X, Y) :- e(Y, X).", "u(X, Y)", ""},
	} {
		l := program(e.program)
		answered(t, "what is far is not looked at", l, given, question(e.question), len(given)+20, rising(facts(e.answer)))
		alone := program(e.program + " z(X) :- y(X, Y), not x(Y).")
		answered(t, "nor what other predicates have", alone, append(facts(each(2000, "y(%d, %d). ")), given...), question(e.question), len(given)+20, rising(facts(e.answer)))
	}
}

// A table of a whole predicate answers what else is asked about it.
func TestOneTableForAWholePredicate(t *testing.T) {
	given := facts(each(20, "e(%d, %d). "))
	for _, text := range []string{"p(X, Y) :- e(X, Y). p(X, Z) :- e(X, Y), p(Y, Z).", "p(X, Y) :- e(X, Y). p(X, Z) :- p(X, Y), p(Y, Z).", "p(X, Y) :- e(X, Y). p(X, Z) :- e(X, Y), e(Y, U), p(U, Z), p(3, U)."} {
		l, a := program(text), question("p(Y, X)")
		if _, tables := answered(t, "a whole predicate", l, given, a, math.MaxInt, matched(grown(l, given), a)); tables != 1 {
			t.Errorf("P17.1: %s: %d tables", text, tables)
		}
	}
}

// R1: where far more heads, or far more questions, come of clauses than may be, that ends.
func TestFarMoreThanMayBe(t *testing.T) {
	const n = 1900
	ones := facts(each(n, "q(%d)."))
	wide := "p(A, B, C, D, E, F) :- q(A), q(B), q(C), q(D), q(E), q(F)"
	for _, e := range []struct{ program, question string }{
		{wide + ".", "p(A, B, C, D, E, F)"},
		{wide + ".", "p(A, 1, C, 2, E, F)"},
		{wide + ", not r(A). r(X) :- s(X).", "p(A, B, C, D, E, F)"},
		{wide + ", not r(F, A). r(X, X) :- s(X), q(X).", "p(A, B, C, A, E, F)"},
		{"r(X) :- q(X). " + strings.ReplaceAll(wide, "q(", "r(") + ".", "p(A, B, C, D, E, F)"},
		{"r(X) :- q(X). r(X) :- p(X, X, X, X, X, Y). " + strings.ReplaceAll(wide, "q(", "r(") + ".", "p(A, B, C, D, E, F)"},
		{"u(X) :- p(X, Y, X, Y, X, Y). " + wide + ".", "u(X)"},
	} {
		l := program(e.program)
		for _, most := range []int{n, n + 2, 2000, 20000} {
			refuses(t, e.program, l, ones, question(e.question), most, api.ErrMany)
		}
	}
	for _, e := range []struct{ program, question, answer string }{ // which all is in a small model
		{"u(X) :- q(X), q(A), q(B), q(C), q(D), q(E), r(X), p(A, B, C, D, E, X). p(A, B, C, D, E, F) :- s(A, B), s(C, D), s(E, F). r(X) :- s(X, Y).", "u(X)", "u(1)."},
		{"u(X) :- q(A), q(B), q(C), q(D), q(E), q(X), p(A, B, C, D, E, X). p(A, B, C, D, E, F) :- p(B, C, D, E, F, A). p(A, B, C, D, E, F) :- s(A, B), s(C, D), s(E, F).", "u(1)", "u(1)."},
		{"p(A, B, C, D, E, F) :- q(A), q(G), p(B, C, D, E, F, G). p(A, B, C, D, E, F) :- s(A, B), s(C, D), s(E, F), not q(A).", "p(1, 1, 1, 1, 1, 1)", ""},
		{"p(A, B, C, D, E, F) :- q(A), q(G), p(G, A, B, C, D, E), p(B, C, D, E, F, G).", "p(1, 2, 3, 4, 5, 6)", ""},
		{"u(X) :- q(X), q(A), q(B), q(C), q(D), q(E), not p(A, B, C, D, E, X), s(X, X). p(A, B, C, D, E, F) :- s(A, B), s(C, D), s(E, F).", "u(X)", "u(1)."},
		{"u :- q(A), q(B), q(C), q(D), q(E), q(F), p(A, B, C, D, E, F). p(A, B, C, D, E, F) :- v(A), v(B), v(C), v(D), v(E), v(F). v(X) :- s(X, Y), not s(X, X).", "u", ""},
		{"v(X) :- q(X), not w(X). w(X) :- q(X), not s(X, X). " + strings.ReplaceAll(wide, "q(", "v(") + ".", "p(A, B, C, D, E, F)", "p(1, 1, 1, 1, 1, 1)."},
	} {
		l, given := program(e.program), append(slices.Clip(ones), facts("s(1, 1).")...)
		for _, most := range []int{5800, math.MaxInt} {
			answered(t, e.program, l, given, question(e.question), most, facts(e.answer))
		}
	}
}

// roomy is a program each list of which has room behind its end, where something stands.
func roomy(l []api.Clause) []api.Clause {
	other := program("w(z, Z) :- x(Z), not y(z).")[0]
	terms := func(a api.Atom) api.Atom {
		return api.Atom{Pred: a.Pred, Args: append(slices.Clone(a.Args), other.Head.Args...)[:len(a.Args)]}
	}
	var m []api.Clause
	for _, c := range l {
		d := api.Clause{Head: terms(c.Head)}
		for _, b := range c.Body {
			d.Body = append(d.Body, api.Lit{Not: b.Not, A: terms(b.A)})
		}
		d.Body = append(d.Body, other.Body...)[:len(c.Body)]
		m = append(m, d)
	}
	return append(m, other)[:len(l)]
}

// roomyFacts are facts with the same.
func roomyFacts(l []api.Fact) []api.Fact {
	var m []api.Fact
	for _, f := range l {
		m = append(m, api.Fact{Pred: f.Pred, Args: append(slices.Clone(f.Args), 77, 78)[:len(f.Args)]})
	}
	return append(m, facts("z(z).")...)[:len(l)]
}

// whole is a text of what is handed in, with what stands behind the ends of its lists.
func whole(l []api.Clause, given []api.Fact, a api.Atom) string {
	var b strings.Builder
	atom := func(a api.Atom) { fmt.Fprint(&b, a.Pred, len(a.Args), a.Args[:cap(a.Args)], ";") }
	for _, c := range l[:cap(l)] {
		atom(c.Head)
		for _, lit := range c.Body[:cap(c.Body)] {
			fmt.Fprint(&b, lit.Not)
			atom(lit.A)
		}
		fmt.Fprint(&b, len(c.Body), "\n")
	}
	for _, f := range given[:cap(given)] {
		fmt.Fprint(&b, f.Pred, len(f.Args), f.Args[:cap(f.Args)], "\n")
	}
	atom(a)
	return b.String()
}

// R3, R5: what is handed in is not changed, and the same is answered each time.
func TestNothingIsChanged(t *testing.T) {
	for _, e := range []struct{ program, given, question string }{
		{"p(X) :- q(X), not r(X). r(X) :- s(X).", "q(b). s(a). q(a). q(b).", "p(X)"},
		{"p(X, Z) :- p(X, Y), p(Y, Z), not q(X). q(X) :- r(X, Y), not z(b, c). p(c, b) :- r(b, c).", "p(c, d). p(b, c). p(a, b). r(b, a).", "p(a, X)"},
		{"p(X, X) :- q(X). p(X, Y) :- p(Y, X), q(Y). p(a, b).", "q(b). q(c).", "p(X, X)"},
		{"p(X, Y) :- e(X, Y). p(X, Z) :- e(X, Y), p(Y, Z).", each(230, "e(%d, %d)."), "p(0, X)"},
		{"p(A, B, C, D, E, F) :- q(A), q(B), q(C), q(D), q(E), q(F), not s(A). s(A) :- r(A).", each(50, "q(%d).") + "r(3).", "p(1, B, C, 4, 5, 6)"},
		{"", "q(b). q(a). p(a).", "q(X)"},
		{"q(c). q(d) :- q(c).", "q(b). q(a). p(a).", "q(X)"},
		{"p(X) :- q(X), not p(X).", "q(b). q(a).", "p(X)"},
		{"p(X) :- q(X). r(Y) :- not r.", "q(b). q(a).", "p(X)"},
		{"p(X) :- q(X), not r(X).", "q(b). p. q(a).", "p(X)"},
		{"p(X) :- q(X), not r(X).", "q(b). q(a).", "p(X, Y)"},
	} {
		for _, most := range []int{-1, 0, 3, 30000} {
			l, given, a := roomy(program(e.program)), roomyFacts(facts(e.given)), question(e.question)
			a.Args = append(slices.Clone(a.Args), s(77), x(12))[:len(a.Args)]
			kept := whole(l, given, a)
			out, tables, errno := table.Ask(l, given, a, most)
			for range 3 {
				if again, n, e := table.Ask(l, given, a, most); e != errno || n != tables || !same(again, out) {
					t.Errorf("R5: Ask(%s, %s, %v, %d): %s, %d, %v, and again %s, %d, %v", short(l), short(given), a, most, short(out), tables, errno, short(again), n, e)
				}
			}
			if got := whole(l, given, a); got != kept {
				t.Errorf("R3: what was handed in is changed: %s, not %s", short(got), short(kept))
			}
		}
	}
}

// R3: what is answered is new memory, each list of its own; nothing of what is handed in is kept.
func TestWhatIsAnsweredIsItsOwn(t *testing.T) {
	for _, text := range []string{"", "p(X) :- q(X), not r(X). r(X) :- s(X).", "q(X) :- z(X). q(b).", "q(X) :- q(X). q(c) :- s(b)."} {
		l, given, a := program(text), roomyFacts(facts("q(a). q(b). s(b). q(a).")), question("q(X)")
		want := matched(told(l, given), a)
		one, _ := answered(t, "the first", l, given, a, 10, want)
		two, _ := answered(t, "the second", l, given, a, 10, want)
		kept := whole(l, given, a)
		for i := range one {
			for k := range one[i].Args {
				one[i].Args[k] = 999
			}
			_ = append(one[i].Args, 998, 997)
			one[i].Pred = 996
		}
		_ = append(one, api.Fact{Pred: 995})
		if got := whole(l, given, a); got != kept {
			t.Errorf("R3: what is answered is memory of what was handed in: %s, not %s", short(got), short(kept))
		}
		answered(t, "what was answered ahead is changed", l, given, a, 10, want)
		for _, c := range l {
			clear(c.Head.Args)
			clear(c.Body)
		}
		for _, f := range given {
			clear(f.Args)
		}
		clear(given)
		clear(a.Args)
		if !same(two, want) {
			t.Errorf("R3: what was handed in is kept: %v", two)
		}
		for i := range two {
			had := short(slices.Concat(two[:i], two[i+1:]))
			for k := range two[i].Args {
				two[i].Args[k] = 999
			}
			two[i].Args = append(two[i].Args, 998)
			if got := short(slices.Concat(two[:i], two[i+1:])); got != had {
				t.Errorf("R3: two lists of an answer hang together: %s, not %s", got, had)
			}
		}
	}
}

// R5: nothing of one call stays for the next one.
func TestCallsDoNotHangTogether(t *testing.T) {
	l, a := program("p(X) :- q(X), not r(X). r(X) :- s(X). u(X, Y) :- p(X), p(Y)."), question("u(X, 3)")
	ones, nots := facts(each(12, "q(%d).")), facts(each(12, "s(%d)."))
	for i := range ones {
		given := slices.Clip(ones[:i+1])
		answered(t, "one more", l, given, a, 1000, matched(told(l, given), a))
		given = append(given, nots[i])
		answered(t, "one less", l, given, a, 1000, matched(told(l, given), a))
		refuses(t, "no levels", append(slices.Clip(l), program("s(X) :- p(X).")...), given, a, 1000, api.ErrStrat)
	}
}

// R1, R3: empty lists are no lists.
func TestEmptyLists(t *testing.T) {
	for _, l := range [][]api.Clause{nil, {}, make([]api.Clause, 0, 4)} {
		for _, given := range [][]api.Fact{nil, {}, make([]api.Fact, 0, 4)} {
			for _, a := range []api.Atom{{}, {Args: []api.Term{}}, {Pred: 7, Args: []api.Term{x(0)}}} {
				asTold(t, "nothing", l, given, a, set{})
			}
		}
	}
	for _, a := range []api.Atom{{}, {Args: []api.Term{}}} {
		empty := []api.Clause{{Head: api.Atom{Args: []api.Term{}}, Body: []api.Lit{}}}
		asTold(t, "empty lists", empty, nil, a, setOf([]api.Fact{{}}))
		asTold(t, "empty lists, and a fact", empty, []api.Fact{{Args: []uint32{}}, {}}, a, setOf([]api.Fact{{}}))
	}
}

// R1: what is far too much ends too.
func TestVeryLargeOnes(t *testing.T) {
	const n = 1 << 20
	long := api.Atom{Pred: 7, Args: make([]api.Term, n)}
	given := []api.Fact{{Pred: 7, Args: make([]uint32, n)}}
	for what, e := range map[string]struct {
		l []api.Clause
		e api.Errno
	}{
		"very many clauses": {make([]api.Clause, n), api.ErrMany},
		"a very long head":  {[]api.Clause{{Head: long}}, api.ErrForm},
		"a very long body":  {[]api.Clause{{Body: make([]api.Lit, n)}}, api.ErrForm},
		"a very long atom":  {[]api.Clause{{}, {Body: []api.Lit{{A: long}}}}, api.ErrForm},
		"a very long fact":  {nil, api.ErrArity},
	} {
		refuses(t, what, e.l, given, long, math.MaxInt, e.e)
		refuses(t, what, e.l, given, long, 0, e.e)
		refuses(t, what, e.l, given, long, math.MinInt, api.ErrArg)
	}
	refuses(t, "a very long question", nil, nil, long, 0, api.ErrForm)
	many := make([]api.Fact, n/4)
	for i := range many {
		many[i] = api.Fact{Pred: 1, Args: []uint32{uint32(len(many) - i)}}
	}
	all := api.Atom{Pred: 1, Args: []api.Term{x(3)}}
	answered(t, "very many facts", nil, many, all, len(many), rising(many))
	answered(t, "one of very many facts", nil, many, api.Atom{Pred: 1, Args: []api.Term{s(9)}}, len(many), []api.Fact{{Pred: 1, Args: []uint32{9}}})
	limited(t, "very many facts, and one more", nil, append(many, api.Fact{Pred: 1, Args: []uint32{0}}), all, len(many), rising(append(many, api.Fact{Pred: 1, Args: []uint32{0}})))
	answered(t, "one fact very many times", program("p :- not q."), make([]api.Fact, n), question("p"), 2, facts("p."))
}

func FuzzAsTold(f *testing.F) {
	f.Add([]byte{})
	f.Add([]byte{1, 9, 9, 0, 0, 2, 1, 9, 9, 0, 2, 2, 0, 9, 0, 0, 1, 9, 9, 0, 0, 0, 1, 9, 0, 1, 2, 0, 9, 0, 0, 0, 1, 0, 2})
	f.Add([]byte{2, 9, 17, 0, 0, 3, 5, 9, 0, 2, 2, 0, 9, 0, 0, 4, 9, 0, 0, 3, 9, 0, 2, 2, 0, 9, 0, 0, 1, 9, 0, 0, 2, 9, 0, 1, 2, 0, 9, 0, 0, 0, 0, 0, 1})
	f.Fuzz(func(t *testing.T, b []byte) { bytesAreTold(t, b[:min(len(b), 400)], 4, told) })
}
