package safe_test

import (
	"fmt"
	"math"
	"math/rand"
	"slices"
	"strings"
	"testing"

	"bailey/api"
	"bailey/safe"
)

// x is a variable, s a symbol.
func x(n uint32) api.Term { return api.Term{Var: true, N: n} }
func s(n uint32) api.Term { return api.Term{N: n} }

func atom(pred uint32, l ...api.Term) api.Atom { return api.Atom{Pred: pred, Args: l} }
func fact(pred uint32, l ...uint32) api.Fact   { return api.Fact{Pred: pred, Args: l} }
func long(pred uint32, n int) api.Atom         { return atom(pred, make([]api.Term, n)...) }
func longFact(pred uint32, n int) api.Fact     { return fact(pred, make([]uint32, n)...) }

func clause(head api.Atom, body ...api.Lit) api.Clause { return api.Clause{Head: head, Body: body} }
func so(a api.Atom) api.Lit                            { return api.Lit{A: a} }
func not(a api.Atom) api.Lit                           { return api.Lit{Not: true, A: a} }

type program = []api.Clause
type facts = []api.Fact

// somePreds are at the edges of what a number can be.
var somePreds = []uint32{0, 1, 15, 16, 4096, 1<<31 - 1, 1 << 31, math.MaxUint32}

// over are all lists of the things, of so many at most.
func over[T any](things []T, most int) [][]T {
	all := [][]T{nil}
	for from, n := 0, 0; n < most; n++ {
		to := len(all)
		for _, l := range all[from:to] {
			for _, t := range things {
				all = append(all, append(slices.Clone(l), t))
			}
		}
		from = to
	}
	return all
}

// toldAtoms are a clause's: its head, then those of its body.
func toldAtoms(c api.Clause) []api.Atom {
	l := []api.Atom{c.Head}
	for _, b := range c.Body {
		l = append(l, b.A)
	}
	return l
}

// toldForm: may a clause not be? Told place by place.
func toldForm(c api.Clause) bool {
	for _, a := range toldAtoms(c) {
		for i, t := range a.Args {
			if i >= 6 || t.Var && t.N > 15 {
				return true
			}
		}
	}
	return len(c.Body) > 8
}

// toldUnheld: is a variable of the head, or of a literal that is Not, in no literal that is not? Told of each such place.
func toldUnheld(c api.Clause) bool {
	holds := func(t api.Term) bool {
		return slices.ContainsFunc(c.Body, func(l api.Lit) bool { return !l.Not && slices.Contains(l.A.Args, t) })
	}
	asks := slices.Clone(c.Head.Args)
	for _, l := range c.Body {
		if l.Not {
			asks = append(asks, l.A.Args...)
		}
	}
	return slices.ContainsFunc(asks, func(t api.Term) bool { return t.Var && !holds(t) })
}

// toldLengths: has a clause a predicate of two lengths, with those ahead? Told of every two atoms of which one is its own.
func toldLengths(ahead program, c api.Clause) bool {
	own := toldAtoms(c)
	all := slices.Clone(own)
	for _, d := range ahead {
		all = append(all, toldAtoms(d)...)
	}
	for _, a := range own {
		for _, b := range all {
			if a.Pred == b.Pred && len(a.Args) != len(b.Args) {
				return true
			}
		}
	}
	return false
}

// toldRight is Right, told by the text's own words.
func toldRight(l program) (int, api.Errno) {
	if len(l) > 400 {
		return 0, api.ErrMany
	}
	for i, c := range l {
		if toldForm(c) {
			return i, api.ErrForm
		}
		if toldUnheld(c) {
			return i, api.ErrSafe
		}
		if toldLengths(l[:i], c) {
			return i, api.ErrArity
		}
	}
	return 0, api.OK
}

// toldArities is Arities of a right program, told of every two.
func toldArities(l program, fs facts) (int, api.Errno) {
	for i, f := range fs {
		bad := len(f.Args) > 6
		for _, g := range fs[:i] {
			bad = bad || g.Pred == f.Pred && len(g.Args) != len(f.Args)
		}
		for _, c := range l {
			for _, a := range toldAtoms(c) {
				bad = bad || a.Pred == f.Pred && len(a.Args) != len(f.Args)
			}
		}
		if bad {
			return i, api.ErrArity
		}
	}
	return 0, api.OK
}

// when is a value if something is so, else none.
func when[T any](so bool, v T) (none T) {
	if so {
		return v
	}
	return none
}

// short is what a test says of what it handed in.
func short(v any) string {
	text := fmt.Sprint(v)
	return text[:min(len(text), 300)]
}

// rights holds Right against the document.
func rights(t *testing.T, what string, l program) api.Errno {
	t.Helper()
	at, e := toldRight(l)
	if gotAt, got := safe.Right(l); gotAt != at || got != e {
		t.Errorf("P11.1: %s: Right of %s: %d, %v, not %d, %v", what, short(l), gotAt, got, at, e)
	}
	return e
}

// is holds Right against the document, and against what the test asks.
func is(t *testing.T, what string, l program, at int, e api.Errno) {
	t.Helper()
	if toldAt, told := toldRight(l); toldAt != at || told != e {
		t.Fatalf("the test itself is wrong: %s: %d, %v, not %d, %v", what, toldAt, told, at, e)
	}
	rights(t, what, l)
}

// arities holds Arities of a right program against the document.
func arities(t *testing.T, what string, l program, fs facts) {
	t.Helper()
	if at, e := safe.Right(l); at != 0 || e != api.OK {
		t.Fatalf("the test itself is wrong: %s: it is not right: %d, %v", what, at, e)
	}
	at, e := toldArities(l, fs)
	if gotAt, got := safe.Arities(l, fs); gotAt != at || got != e {
		t.Errorf("P11.2: %s: Arities of %s and %s: %d, %v, not %d, %v", what, short(l), short(fs), gotAt, got, at, e)
	}
}

// have holds Arities against the document, and against what the test asks.
func have(t *testing.T, what string, l program, fs facts, at int, e api.Errno) {
	t.Helper()
	if toldAt, told := toldArities(l, fs); toldAt != at || told != e {
		t.Fatalf("the test itself is wrong: %s: %d, %v, not %d, %v", what, toldAt, told, at, e)
	}
	arities(t, what, l, fs)
}

const p, q, r = 1, 2, 3

func TestTheDocumentsExamples(t *testing.T) {
	is(t, "p(X) :- q(X), not r(X)", program{clause(atom(p, x(0)), so(atom(q, x(0))), not(atom(r, x(0))))}, 0, api.OK)
	is(t, "p(X) :- not q(X)", program{clause(atom(p, x(0)), not(atom(q, x(0))))}, 0, api.ErrSafe)
	is(t, "p(X)", program{clause(atom(p, x(0)))}, 0, api.ErrSafe)
	is(t, "p(a) :- p(a, b)", program{clause(atom(p, s(1)), so(atom(p, s(1), s(2))))}, 0, api.ErrArity)
}

func TestNoClauses(t *testing.T) {
	is(t, "nil", nil, 0, api.OK)
	is(t, "none", program{}, 0, api.OK)
	is(t, "one of nothing", program{{}}, 0, api.OK)
	is(t, "some of nothing", make(program, 400), 0, api.OK)
	is(t, "empty lists", program{{Head: api.Atom{Args: []api.Term{}}, Body: []api.Lit{}}, {}}, 0, api.OK)
}

// The limits of a program: so many clauses, and one more, whatever else is wrong.
func TestHowManyClauses(t *testing.T) {
	form, loose, arity := clause(long(p, 7)), clause(atom(p, x(0))), clause(long(p, 1), so(long(p, 2)))
	for _, n := range []int{1, 2, 255, 256, 399, 400, 401, 402, 511, 512, 800, 65536, 100000} {
		l := make(program, n)
		is(t, fmt.Sprint(n, " clauses"), l, 0, when(n > 400, api.ErrMany))
		for _, at := range []int{0, n / 2, n - 1} {
			for _, bad := range []api.Clause{form, loose, arity} {
				l[at] = bad
				rights(t, fmt.Sprint(n, " clauses, that at ", at, " bad"), l)
				l[at] = api.Clause{}
			}
		}
	}
	is(t, "the last one is bad", append(make(program, 399), form), 399, api.ErrForm)
	is(t, "one more than may be", append(program{form}, make(program, 400)...), 0, api.ErrMany)
	if api.MaxClauses != 400 || api.MaxArity != 6 || api.MaxBody != 8 || api.MaxVars != 16 {
		t.Error("the test itself is wrong: its limits are others")
	}
}

// largest is a right clause that has as much as may be.
func largest() api.Clause {
	c := clause(atom(math.MaxUint32, x(15), x(14), x(13), s(math.MaxUint32), s(16), x(15)))
	for i := range uint32(4) {
		c.Body = append(c.Body, so(atom(2*i, x(15), s(16), x(14), x(13), s(1<<31), x(i))))
		c.Body = append(c.Body, not(atom(2*i+1, x(15), s(16), x(14), x(13), s(1<<31), x(14))))
	}
	return c
}

// into is the head (-1) or an atom of the body.
func into(c *api.Clause, place int) *api.Atom {
	if place < 0 {
		return &c.Head
	}
	return &c.Body[place].A
}

// around is a program in which a clause has others ahead and behind, that have no predicate of it.
func around(c api.Clause, ahead, behind int) program {
	l := make(program, ahead+1+behind)
	for i := range l {
		l[i] = clause(atom(7000), so(atom(8000, x(1))))
	}
	l[ahead] = c
	return l
}

// Each place of the largest clause: with what may not be there it is of no form, wherever the clause stands.
func TestFormOfEachPlace(t *testing.T) {
	is(t, "the largest", program{largest()}, 0, api.OK)
	is(t, "many of the largest", slices.Repeat(program{largest()}, 400), 0, api.OK)
	for place := -1; place < 8; place++ {
		for arg := range 6 {
			for i, n := range []uint32{16, 17, 31, 32, 255, 256, 1<<31 - 1, 1 << 31, math.MaxUint32} {
				c := largest()
				into(&c, place).Args[arg] = x(n)
				is(t, fmt.Sprint("x", n, " at ", place, ", ", arg), around(c, i, 3), i, api.ErrForm)
				into(&c, place).Args[arg] = s(n)
				is(t, fmt.Sprint("a symbol at ", place, ", ", arg), around(c, i, 3), 0, api.OK)
			}
		}
		for _, ahead := range []int{0, 1, 7, 399} {
			c := largest()
			into(&c, place).Args = append(into(&c, place).Args, s(0))
			is(t, fmt.Sprint("seven Args at ", place), around(c, ahead, min(3, 399-ahead)), ahead, api.ErrForm)
		}
	}
	c := largest()
	c.Body = append(c.Body, so(atom(5000)))
	is(t, "a body of nine", around(c, 2, 2), 2, api.ErrForm)
}

func TestFormOfEachLength(t *testing.T) {
	for n := range 20 {
		e := when(n > 6, api.ErrForm)
		is(t, fmt.Sprint("a head of ", n), program{clause(long(p, n))}, 0, e)
		is(t, fmt.Sprint("one of ", n), program{clause(atom(p), so(long(q, n)))}, 0, e)
		is(t, fmt.Sprint("none of ", n), program{clause(atom(p), not(long(q, n)))}, 0, e)
		is(t, fmt.Sprint("a body of ", n), program{clause(atom(p), slices.Repeat([]api.Lit{so(atom(q))}, n)...)}, 0, when(n > 8, api.ErrForm))
	}
}

// Each variable, asked for at each place, and held at each place, or at none.
func TestEachVariableIsHeld(t *testing.T) {
	for n := range uint32(16) {
		for body := 1; body <= 8; body++ {
			for holder := range body {
				for asker := -1; asker < body; asker++ {
					if asker == holder {
						continue
					}
					c := clause(atom(100, s(n), s(5)))
					for i := range body {
						c.Body = append(c.Body, api.Lit{Not: i != holder, A: atom(uint32(i), s(n), s(5))})
					}
					into(&c, asker).Args[n%2] = x(n)
					is(t, fmt.Sprint("x", n, " of ", asker, " held by none"), program{c}, 0, api.ErrSafe)
					into(&c, holder).Args[holder%2] = x(n ^ 1)
					is(t, fmt.Sprint("x", n, " of ", asker, ", another one held"), program{c}, 0, api.ErrSafe)
					into(&c, holder).Args[holder%2] = x(n)
					is(t, fmt.Sprint("x", n, " of ", asker, " held by ", holder), program{c}, 0, api.OK)
					c.Body[holder].Not = true
					is(t, fmt.Sprint("x", n, " of ", asker, " and in ", holder, ", that is Not"), program{c}, 0, api.ErrSafe)
				}
			}
		}
	}
}

func TestWhatHoldsAVariable(t *testing.T) {
	px, qx, rx := atom(p, x(0)), atom(q, x(0)), atom(r, x(0))
	for _, c := range []struct {
		what string
		l    program
		at   int
		e    api.Errno
	}{
		{"a head does not hold for a literal that is Not", program{clause(px, not(px))}, 0, api.ErrSafe},
		{"the one that is Not is ahead", program{clause(px, not(rx), so(qx))}, 0, api.OK},
		{"a body that asks for nothing", program{clause(atom(p), so(qx), so(atom(r, x(1))))}, 0, api.OK},
		{"a body alone asks", program{clause(atom(p), not(qx))}, 0, api.ErrSafe},
		{"a literal that is Not does not hold for another one", program{clause(atom(p), not(qx), not(rx))}, 0, api.ErrSafe},
		{"another clause does not hold", program{clause(px, so(qx)), clause(px, so(atom(q, x(1))))}, 1, api.ErrSafe},
		{"nor one behind", program{clause(px), clause(px, so(qx))}, 0, api.ErrSafe},
		{"a symbol of the same number does not hold", program{clause(px, so(atom(q, s(0))))}, 0, api.ErrSafe},
		{"a symbol need not be held", program{clause(atom(p, s(0)), not(atom(q, s(0))))}, 0, api.OK},
		{"the same atom holds", program{clause(px, so(px))}, 0, api.OK},
		{"and is not so", program{clause(px, so(px), not(px))}, 0, api.OK},
		{"one of two is not held", program{clause(atom(p, x(0), x(1)), so(qx))}, 0, api.ErrSafe},
		{"each by another one", program{clause(atom(p, x(0), x(1)), so(qx), so(atom(r, x(1))))}, 0, api.OK},
		{"both by one", program{clause(atom(p, x(1), x(0)), so(atom(q, x(0), x(1))))}, 0, api.OK},
	} {
		is(t, c.what, c.l, c.at, c.e)
	}
}

// Each predicate of each two lengths, in each two places of one clause, or of two.
func TestEachTwoLengths(t *testing.T) {
	for _, pred := range somePreds {
		for n := range 7 {
			for m := range 7 {
				e := when(n != m, api.ErrArity)
				a, b, other := long(pred, n), long(pred, m), atom(77)
				for _, last := range []api.Clause{clause(b), clause(other, so(b)), clause(other, not(b)), clause(other, so(other), not(other), not(b))} {
					for _, first := range []api.Clause{clause(a), clause(other, so(a)), clause(other, not(a)), clause(other, not(other), so(other), so(a))} {
						is(t, "a clause ahead", program{first, last}, when(n != m, 1), e)
						is(t, "far ahead", slices.Concat(program{first}, slices.Repeat(program{clause(other)}, 5), program{last}), when(n != m, 6), e)
					}
				}
				for _, c := range []api.Clause{clause(a, so(b)), clause(a, not(b)), clause(other, so(a), so(b)), clause(other, not(a), not(b)), clause(other, so(a), not(b)), clause(other, not(a), so(b)), clause(a, so(other), so(a), so(b))} {
					is(t, "one clause", program{c}, 0, e)
					is(t, "one clause behind another one", program{clause(other), c}, when(n != m, 1), e)
				}
			}
		}
	}
}

// Predicates are told apart, and Args count, not what they are.
func TestLengthsOfUnlikePredicates(t *testing.T) {
	var l program
	for i, pred := range somePreds {
		l = append(l, clause(long(pred, i%7)))
	}
	is(t, "each of its own length", l, 0, api.OK)
	is(t, "of two lengths", append(l, clause(long(somePreds[7], 2))), 8, api.ErrArity)
	is(t, "Args that differ", program{clause(atom(p, s(1), s(2))), clause(atom(p, x(0), x(0)), so(atom(p, x(0), s(9)))), clause(atom(p, s(2), s(1)))}, 0, api.OK)
	is(t, "a symbol of the predicate's number", program{clause(atom(p, s(q), s(q)), so(atom(q, s(p))))}, 0, api.OK)
	is(t, "a length of another clause's, of its own predicate again", program{clause(long(p, 1)), clause(long(q, 2)), clause(long(p, 2), so(long(q, 2)))}, 2, api.ErrArity)
}

// Of one clause what is named first is answered; of two what the first of them has.
func TestWhichErrorGoesAhead(t *testing.T) {
	ahead := clause(long(p, 1))
	form, loose, arity := so(long(q, 7)), not(atom(r, x(3))), so(long(p, 2))
	badForm, badSafe, badArity := clause(atom(9), form), clause(atom(9), loose), clause(atom(9), arity)
	for _, body := range over([]api.Lit{form, loose, arity, so(atom(8))}, 4) {
		e := api.OK
		for _, b := range []struct {
			lit api.Lit
			e   api.Errno
		}{{arity, api.ErrArity}, {loose, api.ErrSafe}, {form, api.ErrForm}} {
			if slices.ContainsFunc(body, func(l api.Lit) bool { return short(l) == short(b.lit) }) {
				e = b.e
			}
		}
		at := when(e != api.OK, 1)
		is(t, "one clause", program{ahead, clause(atom(9), body...)}, at, e)
		if e == api.OK {
			continue
		}
		for _, bad := range []api.Clause{badForm, badSafe, badArity} {
			is(t, "the first of two", program{ahead, clause(atom(9), body...), bad}, at, e)
		}
	}
	bad := clause(atom(p, x(16), x(0)), so(long(p, 7)), not(atom(q, x(1))))
	is(t, "all in one", program{bad}, 0, api.ErrForm)
	is(t, "all in one, but too many", slices.Repeat(program{bad}, 401), 0, api.ErrMany)
	is(t, "a clause that is of no form has no say of lengths", program{clause(long(p, 1), form), clause(long(p, 2))}, 0, api.ErrForm)
	is(t, "a variable that may not be is not held either", program{clause(atom(p, x(16)))}, 0, api.ErrForm)
	is(t, "a body of nine that holds nothing", program{clause(atom(p, x(0)), make([]api.Lit, 9)...)}, 0, api.ErrForm)
	is(t, "two lengths and a variable that nothing holds", program{clause(atom(p, x(0)), so(atom(p)))}, 0, api.ErrSafe)
}

// smallAtoms are of few predicates and terms.
func smallAtoms(preds ...uint32) (l []api.Atom) {
	for _, pred := range preds {
		for _, args := range over([]api.Term{s(0), x(0), x(1), x(16)}, 2) {
			l = append(l, atom(pred, args...))
		}
	}
	return l
}

func TestAllSmallClauses(t *testing.T) {
	var lits []api.Lit
	for _, a := range smallAtoms(p, q) {
		lits = append(lits, so(a), not(a))
	}
	found := map[api.Errno]int{}
	for _, head := range smallAtoms(p) {
		for _, body := range over(lits, 2) {
			found[rights(t, "a small one", program{clause(head, body...)})]++
		}
	}
	for _, e := range []api.Errno{api.OK, api.ErrForm, api.ErrSafe, api.ErrArity} {
		if found[e] < 100 {
			t.Errorf("the test itself is wrong: %v of %d small clauses alone", e, found[e])
		}
	}
}

func TestAllSmallPrograms(t *testing.T) {
	var all program
	for _, head := range []api.Atom{atom(p), atom(p, x(0)), atom(p, s(0)), atom(q, s(0), s(0))} {
		for _, body := range over([]api.Lit{so(atom(p, x(0))), not(atom(p, x(0))), so(atom(p)), not(atom(q, x(1), x(1))), so(atom(q)), so(atom(q, x(1), x(16)))}, 1) {
			all = append(all, clause(head, body...))
		}
	}
	for _, l := range over(all, 3) {
		rights(t, "a small one", l)
	}
}

// rightOnes are right programs of many kinds.
func rightOnes() []program {
	l := []program{nil, {{}}, {largest()}, {largest(), largest()}, around(largest(), 3, 3)}
	g := rand.New(rand.NewSource(11))
	for len(l) < 60 {
		var b program
		for range 40 {
			c := byChance(g)
			if _, e := toldRight(append(slices.Clone(b), c)); e == api.OK {
				b = append(b, c)
			}
		}
		l = append(l, b)
	}
	return l
}

// byChance is a clause of few predicates, mostly one that may be.
func byChance(g *rand.Rand) api.Clause {
	one := func() api.Atom {
		a := atom(uint32(g.Intn(5)))
		n := int(a.Pred)
		if g.Intn(12) == 0 {
			n = g.Intn(8)
		}
		for range n {
			a.Args = append(a.Args, api.Term{Var: g.Intn(2) == 0, N: uint32(g.Intn(3))})
			if g.Intn(60) == 0 {
				a.Args[len(a.Args)-1].N = 14 + uint32(g.Intn(4))
			}
		}
		return a
	}
	c := clause(one())
	for range g.Intn(5) {
		c.Body = append(c.Body, api.Lit{Not: g.Intn(3) == 0, A: one()})
	}
	return c
}

// What is ahead, and any part, of a right program is right.
func TestAPartOfARightProgramIsRight(t *testing.T) {
	g := rand.New(rand.NewSource(12))
	for _, l := range rightOnes() {
		for n := range len(l) + 1 {
			is(t, "P11.3: a beginning", l[:n], 0, api.OK)
			is(t, "P11.3: an end", l[n:], 0, api.OK)
		}
		for range 50 {
			var part program
			for _, c := range l {
				if g.Intn(2) == 0 {
					part = append(part, c)
				}
			}
			is(t, "P11.3: a part", part, 0, api.OK)
			g.Shuffle(len(part), func(i, k int) { part[i], part[k] = part[k], part[i] })
			is(t, "P11.3: a part, in another order", part, 0, api.OK)
		}
	}
}

// What is wrong stays so, at its place, whatever stands behind it; only one more than may be is told instead.
func TestWhatIsWrongStaysWrong(t *testing.T) {
	g := rand.New(rand.NewSource(13))
	bads := program{clause(long(9, 7)), clause(atom(9, x(0))), clause(long(9, 1), so(long(9, 2)))}
	for _, l := range rightOnes() {
		for _, bad := range bads {
			b := append(slices.Clone(l), bad)
			at, e := safe.Right(b)
			if at != len(l) || e == api.OK {
				t.Errorf("P11.1: %s, with one wrong at its end: %d, %v", short(l), at, e)
			}
			for range 20 {
				b = append(b, byChance(g))
				is(t, "P11.3: what is wrong, and more behind it", b, at, e)
			}
			b = append(b, make(program, 400-len(b))...)
			is(t, "P11.3: what is wrong, and as many behind it as may be", b, at, e)
			is(t, "P11.1: and one more", append(b, bad), 0, api.ErrMany)
		}
	}
}

// some is a program that has p of one, q of two, r of none, and 4 of six Args.
func some() program {
	return program{
		clause(atom(p, x(0)), so(atom(q, x(0), x(1))), not(long(4, 6))),
		clause(atom(r)),
	}
}

func TestAritiesOfEachLength(t *testing.T) {
	lengths := map[uint32]int{p: 1, q: 2, r: 0, 4: 6}
	for pred, length := range lengths {
		for n := range 10 {
			e := when(n != length, api.ErrArity)
			have(t, "one fact", some(), facts{longFact(pred, n)}, 0, e)
			have(t, "behind another one", some(), facts{fact(p, 9), longFact(pred, n)}, when(n != length, 1), e)
			have(t, "behind those of another predicate", some(), facts{longFact(9, 3), fact(q, 1, 2), longFact(pred, n)}, when(n != length, 2), e)
		}
	}
	for n := range 20 {
		e := when(n > 6, api.ErrArity)
		for _, pred := range []uint32{0, 9, math.MaxUint32} {
			have(t, "of a predicate that stands nowhere", some(), facts{longFact(pred, n)}, 0, e)
			have(t, "of no program", nil, facts{longFact(pred, n)}, 0, e)
			have(t, "of no clauses", program{}, facts{longFact(pred, n), longFact(pred, n)}, 0, e)
		}
	}
}

// Each place where a predicate can stand says its length.
func TestAritiesOfEachPlace(t *testing.T) {
	for place := -1; place < 8; place++ {
		for _, ahead := range []int{0, 1, 399} {
			l := around(largest(), ahead, min(2, 399-ahead))
			pred := into(&l[ahead], place).Pred
			have(t, "as it stands", l, facts{longFact(pred, 6)}, 0, api.OK)
			for n := range 6 {
				have(t, "of another length", l, facts{longFact(8000, 1), longFact(pred, n)}, 1, api.ErrArity)
			}
		}
	}
}

// Facts say lengths for those behind them.
func TestAritiesOfFactsAmongThemselves(t *testing.T) {
	for _, pred := range somePreds {
		for n := range 7 {
			for m := range 7 {
				e := when(n != m, api.ErrArity)
				have(t, "two", nil, facts{longFact(pred, n), longFact(pred, m)}, when(n != m, 1), e)
				have(t, "two, and others between", nil, facts{longFact(pred, n), longFact(77, m), longFact(78, n), longFact(pred, n), longFact(pred, m), longFact(pred, n)}, when(n != m, 4), e)
			}
		}
		have(t, "unlike predicates", nil, facts{longFact(pred, 1), longFact(pred+1, 2), longFact(pred+2, 3), longFact(pred+1, 2)}, 0, api.OK)
	}
	have(t, "the same fact twice", nil, facts{fact(p, 1), fact(p, 1)}, 0, api.OK)
	have(t, "Args that differ", nil, facts{fact(p, 1), fact(p, 2), fact(p, math.MaxUint32)}, 0, api.OK)
	have(t, "the first of two", nil, facts{longFact(p, 1), longFact(q, 1), longFact(q, 2), longFact(p, 2)}, 2, api.ErrArity)
	have(t, "a long one ahead", nil, facts{longFact(r, 2), longFact(p, 7), longFact(r, 1)}, 1, api.ErrArity)
	have(t, "a long one behind", nil, facts{longFact(r, 2), longFact(r, 1), longFact(p, 7)}, 1, api.ErrArity)
	have(t, "two long ones", nil, facts{longFact(p, 6), longFact(q, 7), longFact(q, 7)}, 1, api.ErrArity)
	have(t, "nothing", nil, nil, 0, api.OK)
	have(t, "no facts", some(), nil, 0, api.OK)
	have(t, "facts of nothing", nil, facts{{}, {Args: []uint32{}}, {}}, 0, api.OK)
	have(t, "0 is a predicate", program{{}}, facts{fact(0, 0)}, 0, api.ErrArity)
}

func TestAritiesOfAllSmallFacts(t *testing.T) {
	var few facts
	for _, pred := range []uint32{p, q, 9} {
		for n := range 3 {
			few = append(few, longFact(pred, n))
		}
	}
	few = append(few, longFact(9, 7), longFact(4, 6), longFact(r, 0))
	for _, l := range []program{nil, {clause(atom(p, s(1)))}, some()} {
		for _, fs := range over(few, 4) {
			arities(t, "small ones", l, fs)
		}
	}
}

// Of right programs, with facts that mostly have the lengths that those have.
func TestAritiesByChance(t *testing.T) {
	g := rand.New(rand.NewSource(14))
	for _, l := range rightOnes() {
		for range 100 {
			var fs facts
			for range g.Intn(20) {
				pred := g.Intn(7)
				fs = append(fs, longFact(uint32(pred), pred+when(g.Intn(40) == 0, g.Intn(3))))
			}
			arities(t, "by chance", l, fs)
		}
	}
}

// There is no limit to how many facts there are.
func TestAritiesOfManyFacts(t *testing.T) {
	var fs facts
	for i := range uint32(200000) {
		fs = append(fs, longFact(1000+i%5000, int(i%5)))
	}
	l := slices.Repeat(program{largest()}, 400)
	asks := func(what string, at int, e api.Errno) {
		t.Helper()
		if gotAt, got := safe.Arities(l, fs); gotAt != at || got != e {
			t.Errorf("P11.2: %s: %d, %v, not %d, %v", what, gotAt, got, at, e)
		}
	}
	asks("many facts", 0, api.OK)
	fs = append(fs, longFact(1003, 2))
	asks("the last of many facts", 200000, api.ErrArity)
	fs[5000].Args = make([]uint32, 7)
	asks("one of many facts that is too long", 5000, api.ErrArity)
	fs[4999].Pred = math.MaxUint32
	asks("one of many facts of another length than the program has", 4999, api.ErrArity)
}

// R1, R5: of what is not right Arities ends, with a place that there is, and the same each time.
func TestAritiesOfProgramsThatAreNotRight(t *testing.T) {
	fs := facts{fact(p, 1), fact(q, 1, 2), fact(p, 1, 2), longFact(9, 7)}
	wrong := []program{
		make(program, 5000),
		{clause(long(p, 1)), clause(long(p, 2))},
		{clause(long(p, 2), so(long(p, 1)), so(long(p, 0)))},
		{clause(atom(p, x(math.MaxUint32)), so(atom(q, x(16), x(17))))},
		{clause(atom(p, x(0)))},
		{clause(long(p, 100000))},
		{clause(atom(p), make([]api.Lit, 100000)...)},
	}
	for _, l := range wrong {
		if rights(t, "not right", l) == api.OK {
			t.Fatal("the test itself is wrong: a program is right")
		}
		for n := range len(fs) + 1 {
			at, e := safe.Arities(l, fs[:n])
			if again, f := safe.Arities(l, fs[:n]); again != at || f != e {
				t.Errorf("R5: Arities of %s: %d, %v, then %d, %v", short(l), at, e, again, f)
			}
			if e != api.OK && e != api.ErrArity || at < 0 || at > max(0, n-1) || e == api.OK && at != 0 {
				t.Errorf("R2: Arities of %s: %d, %v", short(l), at, e)
			}
		}
	}
}

// R1: what is far too much ends too.
func TestVeryLargeOnes(t *testing.T) {
	const n = 1 << 20
	terms := make([]api.Term, n)
	for i := range terms {
		terms[i] = x(uint32(i) * 4099)
	}
	is(t, "a very long head", program{clause(atom(p, terms...))}, 0, api.ErrForm)
	is(t, "a very long atom", program{clause(atom(p), so(atom(q, terms...)))}, 0, api.ErrForm)
	if at, e := safe.Right(program{clause(atom(p), make([]api.Lit, n)...)}); at != 0 || e != api.ErrForm {
		t.Errorf("P11.1: a very long body: %d, %v", at, e)
	}
	is(t, "very many clauses", make(program, n), 0, api.ErrMany)
	have(t, "a very long fact", some(), facts{fact(p, make([]uint32, n)...)}, 0, api.ErrArity)
	have(t, "behind another one", nil, facts{fact(p), fact(q, make([]uint32, n)...)}, 1, api.ErrArity)
}

// R3: what is handed in is not changed, the room behind lists' ends neither; R5: and each call is answered anew.
func TestWhatIsHandedInIsNotChanged(t *testing.T) {
	spare := func(a api.Atom) api.Atom {
		return api.Atom{Pred: a.Pred, Args: append(a.Args, x(9), s(99))[:len(a.Args)]}
	}
	roomy := func(l program) (whole program) {
		for _, c := range l {
			d := clause(spare(c.Head))
			for _, b := range c.Body {
				d.Body = append(d.Body, api.Lit{Not: b.Not, A: spare(b.A)})
			}
			d.Body = append(d.Body, not(atom(99, x(9))))[:len(c.Body)]
			whole = append(whole, d)
		}
		return append(whole, clause(atom(99, x(9))))
	}
	text := func(l program, fs facts) string {
		out := fmt.Sprint(l, fs)
		for _, c := range l {
			out += fmt.Sprint(c.Head.Args[:cap(c.Head.Args)], c.Body[:cap(c.Body)])
			for _, b := range c.Body {
				out += fmt.Sprint(b.A.Args[:cap(b.A.Args)])
			}
		}
		for _, f := range fs {
			out += fmt.Sprint(f.Args[:cap(f.Args)])
		}
		return out
	}
	args := []uint32{7, 8, 9, 10, 11, 12, 13, 14}
	fs := facts{fact(p, args[:1]...), fact(q, args[:2]...), fact(p, args[:3]...), fact(99)}
	for _, l := range []program{some(), {largest()}, {clause(atom(p, x(1), x(0), x(1)), not(atom(p, x(2))))}, {clause(long(p, 1), so(long(p, 2)))}} {
		whole := roomy(l)
		kept := text(whole, fs)
		for range 3 {
			rights(t, "R5: with room behind its end", whole[:len(l)])
			safe.Arities(whole[:len(l)], fs[:3])
			arities(t, "R5: facts with room behind their end", nil, fs[:3])
		}
		if got := text(whole, fs); got != kept {
			t.Errorf("R3: what was handed in is changed: %s, not %s", got, kept)
		}
	}
}

// Nothing of one call stays for the next one.
func TestCallsDoNotHangTogether(t *testing.T) {
	for range 3 {
		for n := range 7 {
			is(t, "R5: p of another length than ahead", program{clause(long(p, n))}, 0, api.OK)
			have(t, "R5: p of another length than ahead", nil, facts{longFact(p, n)}, 0, api.OK)
			have(t, "R5: a program of another length than ahead", program{clause(long(p, n))}, facts{longFact(p, n)}, 0, api.OK)
		}
		is(t, "R5: x0 is held", program{clause(atom(p, x(0)), so(atom(q, x(0))))}, 0, api.OK)
		is(t, "R5: x0 is not held", program{clause(atom(p, x(0)))}, 0, api.ErrSafe)
	}
}

// asTold holds both calls of what bytes say against the document.
func asTold(t *testing.T, b []byte) {
	t.Helper()
	take := func() uint32 {
		if len(b) == 0 {
			return 0
		}
		n := b[0]
		b = b[1:]
		return uint32(n)
	}
	one := func() api.Atom {
		n := take()
		a := atom(n % 8)
		for range n/8%8 + n/250 {
			m := take()
			a.Args = append(a.Args, api.Term{Var: m%2 == 1, N: m / 2 % 18})
		}
		return a
	}
	var l program
	for n := take() % 8; n > 0; n-- {
		m := take()
		c := clause(one())
		for range m % 10 {
			c.Body = append(c.Body, api.Lit{Not: take()%3 == 0, A: one()})
		}
		l = append(l, c)
	}
	if rights(t, "as told", l) != api.OK {
		at, _ := toldRight(l)
		l = l[:at]
		rights(t, "as told, what is right of it", l)
	}
	var fs facts
	for len(b) > 0 {
		n := take()
		fs = append(fs, longFact(n%8, int(n/8%8)))
	}
	arities(t, "as told", l, fs)
}

func TestManyByChance(t *testing.T) {
	g := rand.New(rand.NewSource(111))
	for range 50000 {
		b := make([]byte, g.Intn(120))
		g.Read(b)
		asTold(t, b)
	}
	for range 5000 {
		var l program
		for range g.Intn(10) {
			l = append(l, byChance(g))
		}
		rights(t, "by chance", l)
	}
}

func FuzzAsTold(f *testing.F) {
	f.Add([]byte{})
	f.Add([]byte{1, 1, 9, 1, 1, 10, 1, 9, 10})
	f.Add([]byte{2, 1, 9, 1, 0, 10, 1, 0, 9, 1})
	f.Add([]byte(strings.Repeat("\x02\x01\x09\x00\x01\x11\x01\x00", 9)))
	f.Fuzz(func(t *testing.T, b []byte) { asTold(t, b) })
}
