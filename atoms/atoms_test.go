package atoms_test

import (
	"bytes"
	"encoding/binary"
	"fmt"
	"math"
	"math/rand"
	"reflect"
	"slices"
	"sort"
	"strings"
	"testing"

	"bailey/api"
	"bailey/atoms"
)

// x is a variable, s a symbol.
func x(n uint32) api.Term { return api.Term{Var: true, N: n} }
func s(n uint32) api.Term { return api.Term{N: n} }

func atom(pred uint32, l ...api.Term) api.Atom { return api.Atom{Pred: pred, Args: l} }
func fact(pred uint32, l ...uint32) api.Fact   { return api.Fact{Pred: pred, Args: l} }

func clause(head api.Atom, body ...api.Lit) api.Clause { return api.Clause{Head: head, Body: body} }
func so(a api.Atom) api.Lit                            { return api.Lit{A: a} }
func not(a api.Atom) api.Lit                           { return api.Lit{Not: true, A: a} }

// someTerms has symbols and variables of the same numbers, at the edges of what may be and of what a number can be.
var someTerms = []api.Term{
	s(0), s(1), s(15), s(16), s(17), s(4096), s(1<<31 - 1), s(1 << 31), s(math.MaxUint32),
	x(0), x(1), x(14), x(15), x(16), x(17), x(4096), x(1<<31 - 1), x(1 << 31), x(1<<31 + 1), x(math.MaxUint32),
}

// someAtoms are those of no, one or two of these terms.
func someAtoms() []api.Atom {
	l := []api.Atom{atom(0), atom(1), atom(math.MaxUint32)}
	for _, t := range someTerms {
		l = append(l, atom(1, t))
		for _, u := range someTerms {
			l = append(l, atom(1, t, u))
		}
	}
	return l
}

// over are all lists of the things, of so many at most.
func over[T any](things []T, most int) [][]T {
	all := [][]T{nil}
	for from, n := 0, 0; n < most; n++ {
		to := len(all)
		for _, l := range all[from:to] {
			for _, t := range things {
				all = append(all, append(slices.Clone(l), t))
			}
		}
		from = to
	}
	return all
}

// manyAtoms are all of few terms, and of as many as three of them.
func manyAtoms() []api.Atom {
	var all []api.Atom
	for _, l := range over([]api.Term{s(0), s(1), x(0), x(1), x(16)}, 3) {
		all = append(all, atom(7, l...), atom(8, l...))
	}
	return all
}

// manyFacts are all of few symbols.
func manyFacts() []api.Fact {
	var all []api.Fact
	for _, l := range over([]uint32{0, 1, 16}, 3) {
		all = append(all, fact(7, l...), fact(8, l...))
	}
	return all
}

// toldMay is May, told place by place.
func toldMay(c api.Clause) bool {
	all := []api.Atom{c.Head}
	for _, l := range c.Body {
		all = append(all, l.A)
	}
	for _, a := range all {
		for i, t := range a.Args {
			if i >= 6 || t.Var && t.N > 15 {
				return false
			}
		}
	}
	return len(all) <= 1+8
}

// toldVars is Vars, told by the text's own words.
func toldVars(a api.Atom) []int {
	seen := map[int]bool{}
	var l []int
	for _, t := range a.Args {
		if t.Var && !seen[int(t.N)] {
			seen[int(t.N)] = true
			l = append(l, int(t.N))
		}
	}
	sort.Ints(l)
	return l
}

// toldMatch is Match, told of every two places.
func toldMatch(a api.Atom, f api.Fact) bool {
	if a.Pred != f.Pred || len(a.Args) != len(f.Args) {
		return false
	}
	for i, t := range a.Args {
		for k, u := range a.Args {
			if t.Var && t == u && f.Args[i] != f.Args[k] {
				return false
			}
		}
		if !t.Var && t.N != f.Args[i] {
			return false
		}
	}
	return true
}

// toldBytes are a fact's, in a form whose order is that of facts.
func toldBytes(f api.Fact) []byte {
	b := binary.BigEndian.AppendUint32(nil, f.Pred)
	b = binary.BigEndian.AppendUint64(b, uint64(len(f.Args)))
	for _, n := range f.Args {
		b = binary.BigEndian.AppendUint32(b, n)
	}
	return b
}

// toldText is a clause's, another one for each that is not the same.
func toldText(c api.Clause) string {
	text := toldAtom(c.Head) + " :-"
	for _, l := range c.Body {
		text += fmt.Sprint(" ", l.Not, " ") + toldAtom(l.A)
	}
	return text
}

func toldAtom(a api.Atom) string {
	b := fmt.Appendf(nil, "%d(", a.Pred)
	for _, t := range a.Args {
		b = fmt.Appendf(b, "%v %d,", t.Var, t.N)
	}
	return string(append(b, ')'))
}

// ofAtom holds what is said of an atom against the document.
func ofAtom(t *testing.T, a api.Atom) {
	t.Helper()
	vars := toldVars(a)
	got := atoms.Vars(a)
	if fmt.Sprint(got) != fmt.Sprint(vars) {
		t.Errorf("P5.1: Vars of %v: %v, not %v", a, got, vars)
	}
	if is := atoms.Ground(a); is != (len(vars) == 0) {
		t.Errorf("P5.1: Ground of %v: %v", a, is)
	}
	f, is := atoms.Of(a)
	if is != (len(vars) == 0) {
		t.Errorf("P5.2: Of of %v: %v", a, is)
	}
	if !is && (f.Pred != 0 || len(f.Args) != 0) {
		t.Errorf("P5.2: Of of %v, which is none: %v", a, f)
	}
	if is && toldAtom(a) != toldAtom(asAtom(f)) {
		t.Errorf("P5.2: Of of %v: %v", a, f)
	}
}

// asAtom is a fact as an atom, by hand.
func asAtom(f api.Fact) api.Atom {
	a := atom(f.Pred)
	for _, n := range f.Args {
		a.Args = append(a.Args, s(n))
	}
	return a
}

// ofFact holds what is said of a fact against the document.
func ofFact(t *testing.T, f api.Fact) {
	t.Helper()
	a := atoms.Lift(f)
	if toldAtom(a) != toldAtom(asAtom(f)) {
		t.Errorf("P5.2: Lift of %v: %v", f, a)
	}
	if !atoms.Ground(a) {
		t.Errorf("P5.2: Lift of %v is not ground: %v", f, a)
	}
	if g, is := atoms.Of(a); !is || !bytes.Equal(toldBytes(g), toldBytes(f)) {
		t.Errorf("P5.2: Of of Lift of %v: %v, %v", f, g, is)
	}
	if !atoms.Match(a, f) {
		t.Errorf("P5.4: Lift of %v does not match it", f)
	}
}

// mays holds May of a clause against the document, and against what the test asks.
func mays(t *testing.T, what string, c api.Clause, want bool) {
	t.Helper()
	if toldMay(c) != want {
		t.Fatalf("the test itself is wrong: %s", what)
	}
	if got := atoms.May(c); got != want {
		t.Errorf("P5.1: May of %s: %v", what, got)
	}
}

func TestMayOfEachLength(t *testing.T) {
	for n := range 20 {
		long := atom(1, make([]api.Term, n)...)
		mays(t, fmt.Sprint("a head of ", n), clause(long), n <= 6)
		mays(t, fmt.Sprint("a body of one of ", n), clause(atom(1), so(long)), n <= 6)
		mays(t, fmt.Sprint("a body of none of ", n), clause(atom(1), not(long)), n <= 6)
		mays(t, fmt.Sprint("a body of ", n), clause(atom(1), make([]api.Lit, n)...), n <= 8)
	}
	mays(t, "nothing", api.Clause{}, true)
	mays(t, "an empty body", api.Clause{Body: []api.Lit{}}, true)
	if api.MaxArity != 6 || api.MaxBody != 8 || api.MaxVars != 16 {
		t.Error("the test itself is wrong: its limits are others")
	}
}

// The largest clause may be; with a bad thing at any of its places it may not.
func TestMayOfEachPlace(t *testing.T) {
	for _, term := range someTerms {
		want := !term.Var || term.N < 16
		for place := -1; place < 8; place++ {
			for at := range 6 {
				c := largest()
				into(&c, place).Args[at] = term
				mays(t, fmt.Sprint(term, " at ", place, ", ", at), c, want)
			}
		}
	}
	for place := -1; place < 8; place++ {
		c := largest()
		a := into(&c, place)
		a.Args = append(a.Args, s(0))
		mays(t, fmt.Sprint("seven Args at ", place), c, false)
		c = largest()
		into(&c, place).Args = nil
		mays(t, fmt.Sprint("no Args at ", place), c, true)
		c = largest()
		into(&c, place).Pred = math.MaxUint32
		mays(t, fmt.Sprint("any Pred at ", place), c, true)
	}
	c := largest()
	c.Body = append(c.Body, so(atom(0)))
	mays(t, "a body of nine", c, false)
}

// largest is a clause that has as much as may be, its variables and symbols the last ones.
func largest() api.Clause {
	c := clause(atom(1, x(15), x(14), x(13), s(math.MaxUint32), s(16), x(15)))
	for i := range 8 {
		c.Body = append(c.Body, api.Lit{Not: i%2 == 1, A: atom(uint32(i), x(15), s(16), x(0), x(1), s(1<<31), x(uint32(i)))})
	}
	return c
}

// into is the head (-1) or an atom of the body.
func into(c *api.Clause, place int) *api.Atom {
	if place < 0 {
		return &c.Head
	}
	return &c.Body[place].A
}

// What one atom or literal has must not be taken for what another one lacks.
func TestMayOfClausesThatMayNotBeForTwoReasons(t *testing.T) {
	long, bad := atom(1, make([]api.Term, 7)...), atom(1, x(16))
	mays(t, "two bad ones", clause(long, so(bad)), false)
	mays(t, "the last of them is bad", clause(atom(1), so(atom(2)), not(bad)), false)
	mays(t, "the first of them is bad", clause(atom(1), so(bad), so(atom(2))), false)
	mays(t, "a good one of each kind", clause(atom(1, x(15)), so(atom(1, x(0))), not(atom(1, s(16)))), true)
	mays(t, "one Pred of two lengths", clause(atom(1, x(0)), so(atom(1, x(0), x(1)))), true)
	mays(t, "a variable that nothing holds", clause(atom(1, x(0)), not(atom(2, x(1)))), true)
}

func TestSameOfAllThatDiffer(t *testing.T) {
	var all []api.Clause
	for place := -1; place < 8; place++ {
		for at := range 6 {
			for _, term := range []api.Term{x(2), s(2), x(math.MaxUint32), s(math.MaxUint32)} {
				c := largest()
				into(&c, place).Args[at] = term
				all = append(all, c)
			}
		}
		for _, args := range [][]api.Term{nil, {x(15)}, {x(15), x(14), x(13), s(math.MaxUint32), s(16)}, make([]api.Term, 7)} {
			c := largest()
			into(&c, place).Args = args
			all = append(all, c)
		}
		c := largest()
		into(&c, place).Pred += 100
		all = append(all, c)
		if place >= 0 {
			c, d, e := largest(), largest(), largest()
			c.Body[place].Not = !c.Body[place].Not
			d.Body = slices.Delete(d.Body, place, place+1)
			e.Body = slices.Insert(e.Body, place, e.Body[7-place])
			all = append(all, c, d, e, clause(largest().Head, largest().Body[:place]...))
		}
	}
	all = append(all, largest(), clause(largest().Head), api.Clause{}, clause(atom(0), so(atom(0))), clause(atom(0), not(atom(0))))
	everyTwo(t, all)
}

// everyTwo holds Same of every two clauses against their texts.
func everyTwo(t *testing.T, all []api.Clause) {
	t.Helper()
	var texts []string
	for _, c := range all {
		texts = append(texts, toldText(c))
	}
	alike := 0
	for i, c := range all {
		for k, d := range all {
			want := texts[i] == texts[k]
			if got := atoms.Same(c, d); got != want {
				t.Errorf("P5.1: Same of %v and %v: %v", c, d, got)
			}
			if want {
				alike++
			}
		}
	}
	if alike < len(all) {
		t.Errorf("the test itself is wrong: %d of %d are alike", alike, len(all))
	}
}

func TestSameOfSmallOnes(t *testing.T) {
	p, q := atom(1, x(0)), atom(1, s(0))
	var all []api.Clause
	for _, head := range []api.Atom{p, q, atom(1), atom(2, x(0)), atom(1, x(0), x(0)), atom(1, x(1))} {
		for _, body := range over([]api.Lit{so(p), not(p), so(q), so(atom(1))}, 2) {
			all = append(all, clause(head, body...))
		}
	}
	everyTwo(t, all)
}

// A list of nothing is one, nil or empty.
func TestSameOfNilAndEmpty(t *testing.T) {
	empty := api.Clause{Head: atom(1, []api.Term{}...), Body: []api.Lit{}}
	if !atoms.Same(empty, clause(atom(1))) || !atoms.Same(clause(atom(1)), empty) {
		t.Error("R3: Same tells nil from empty lists of the head or body")
	}
	c := clause(atom(1), so(api.Atom{Pred: 2, Args: []api.Term{}}))
	if d := clause(atom(1), so(atom(2))); !atoms.Same(c, d) || !atoms.Same(d, c) {
		t.Error("R3: Same tells nil from empty lists of an atom in the body")
	}
}

// Same is of what stands there: what may not be can be the same, and variables are told by their numbers.
func TestSameOfWhatMayNotBe(t *testing.T) {
	long := clause(atom(1, make([]api.Term, 100)...), make([]api.Lit, 100)...)
	other := clause(atom(1, make([]api.Term, 100)...), make([]api.Lit, 100)...)
	if !atoms.Same(long, other) {
		t.Error("P5.1: Same of two long clauses: false")
	}
	other.Body[99].Not = true
	if atoms.Same(long, other) {
		t.Error("P5.1: Same of two long clauses that differ: true")
	}
	everyTwo(t, []api.Clause{
		clause(atom(1, x(0), x(1))), clause(atom(1, x(1), x(0))), clause(atom(1, x(0), x(0))), clause(atom(1, x(16), x(17))),
		clause(atom(1), so(atom(2)), so(atom(3))), clause(atom(1), so(atom(3)), so(atom(2))), clause(atom(1), so(atom(2)), so(atom(2))),
	})
}

func TestVarsGroundAndOf(t *testing.T) {
	for _, a := range slices.Concat(someAtoms(), manyAtoms()) {
		ofAtom(t, a)
	}
	for _, c := range []struct {
		a    api.Atom
		want []uint32
	}{
		{atom(1), nil},
		{atom(1, s(3), s(4)), nil},
		{atom(1, x(5), x(3), x(4), x(3), x(5), x(0)), []uint32{0, 3, 4, 5}},
		{atom(1, x(15), s(0), x(14)), []uint32{14, 15}},
		{atom(1, x(1<<31), x(2), x(math.MaxUint32), x(2)), []uint32{2, 1 << 31, math.MaxUint32}},
		{atom(1, x(3), x(3), x(3), x(3), x(3), x(3), x(3), x(3)), []uint32{3}},
	} {
		if got := atoms.Vars(c.a); !slices.Equal(got, c.want) {
			t.Errorf("P5.1: Vars of %v: %v, not %v", c.a, got, c.want)
		}
	}
}

func TestLift(t *testing.T) {
	for _, f := range append(manyFacts(), fact(0), fact(math.MaxUint32, math.MaxUint32, 1<<31, 0, 16), fact(1, make([]uint32, 100)...)) {
		ofFact(t, f)
	}
}

func TestTheDocumentsExamples(t *testing.T) {
	X, Y, a, b := x(0), x(1), s(1), s(2)
	p := func(l ...api.Term) api.Atom { return atom(1, l...) }
	of := func(a api.Atom) api.Fact {
		f, is := atoms.Of(a)
		if !is {
			t.Fatalf("P5.2: Of of %v: nothing", a)
		}
		return f
	}
	if !atoms.Match(p(X, a, X), of(p(b, a, b))) || atoms.Match(p(X, a, X), of(p(b, a, a))) || atoms.Match(p(X, a, X), of(p(b, a))) {
		t.Error("P5.3: Match, in the examples")
	}
	if l := atoms.Vars(p(Y, X, Y)); !slices.Equal(l, []uint32{0, 1}) {
		t.Errorf("P5.1: Vars, in the examples: %v", l)
	}
	if !atoms.Ground(p()) {
		t.Error("P5.1: Ground, in the examples")
	}
	if f, is := atoms.Of(p(X)); is || f.Pred != 0 || len(f.Args) != 0 {
		t.Errorf("P5.2: Of, in the examples: %v, %v", f, is)
	}
	if c := atoms.Compare(of(p(b)), of(p(a, a))); c != -1 {
		t.Errorf("P5.3: Compare of p(b), p(a, a): %d", c)
	}
	if c := atoms.Compare(of(p(a, b)), of(p(a, a))); c != 1 {
		t.Errorf("P5.3: Compare of p(a, b), p(a, a): %d", c)
	}
	if c := atoms.Compare(fact(2), of(p(b))); c != 1 {
		t.Errorf("P5.3: Compare of 2(), p(b): %d", c)
	}
}

// edgeFacts are at the edges of what numbers can be, and long.
func edgeFacts() []api.Fact {
	edges := []uint32{0, 1, 1<<31 - 1, 1 << 31, 1<<31 + 1, math.MaxUint32 - 1, math.MaxUint32}
	l := []api.Fact{fact(3, make([]uint32, 100)...), fact(3, make([]uint32, 101)...), fact(3, append(make([]uint32, 99), 1)...)}
	for _, n := range edges {
		l = append(l, fact(n), fact(3, n), fact(3, n, 0), fact(3, 0, n), fact(n, math.MaxUint32, math.MaxUint32))
	}
	return l
}

func TestCompare(t *testing.T) {
	all := append(manyFacts(), edgeFacts()...)
	for _, f := range all {
		for _, g := range all {
			if got, want := atoms.Compare(f, g), bytes.Compare(toldBytes(f), toldBytes(g)); got != want {
				t.Errorf("P5.3: Compare of %v and %v: %d, not %d", f, g, got, want)
			}
		}
	}
	if c := atoms.Compare(api.Fact{Pred: 1, Args: []uint32{}}, fact(1)); c != 0 {
		t.Errorf("R3: Compare tells nil from empty Args: %d", c)
	}
}

func TestTheOrderGoesOn(t *testing.T) {
	all := append(manyFacts(), edgeFacts()...)
	for _, f := range all {
		for _, g := range all {
			if atoms.Compare(f, g) != -atoms.Compare(g, f) {
				t.Fatalf("P5.4: %v and %v are not ahead of each other one way alone", f, g)
			}
			if atoms.Compare(f, g) != -1 {
				continue
			}
			for _, h := range all {
				if atoms.Compare(g, h) == -1 && atoms.Compare(f, h) != -1 {
					t.Fatalf("P5.4: %v is ahead of %v, that of %v, and the first is not ahead of the last", f, g, h)
				}
			}
		}
	}
}

// matches holds Match against the document.
func matches(t *testing.T, a api.Atom, f api.Fact) bool {
	t.Helper()
	got := atoms.Match(a, f)
	if want := toldMatch(a, f); got != want {
		t.Errorf("P5.3: Match of %v and %v: %v", a, f, got)
	}
	return got
}

func TestMatchOfAllSmallOnes(t *testing.T) {
	for _, a := range manyAtoms() {
		for _, f := range manyFacts() {
			matches(t, a, f)
		}
	}
}

func TestMatchAtItsEdges(t *testing.T) {
	all := someAtoms()
	for _, a := range all {
		for _, n := range []uint32{0, 15, 16, 1 << 31, math.MaxUint32} {
			for _, m := range []uint32{0, 1, 16, math.MaxUint32} {
				matches(t, a, fact(1, n))
				matches(t, a, fact(1, n, m))
				matches(t, a, fact(math.MaxUint32, n, m))
			}
		}
		matches(t, a, fact(1))
		matches(t, a, fact(0))
	}
}

// Two places of one variable are held against each other wherever they stand, and whatever stands for it: a symbol of number 0 too.
func TestMatchOfOneVariableAtTwoPlaces(t *testing.T) {
	for _, n := range []uint32{0, 1, 15, 16, 17, 1 << 31, math.MaxUint32} {
		for i := range 6 {
			for k := range i {
				a := atom(1, x(2), x(3), x(4), x(5), x(6), x(7))
				a.Args[i], a.Args[k] = x(n), x(n)
				for _, symbol := range []uint32{0, 9, math.MaxUint32} {
					f := fact(1, 10, 11, 12, 13, 14, 15)
					if matches(t, a, f) {
						t.Errorf("P5.3: %v matches %v", a, f)
					}
					f.Args[i] = symbol
					matches(t, a, f)
					f.Args[k] = symbol
					matches(t, a, f)
				}
			}
		}
	}
}

// What a variable stands for in one atom says nothing of another one.
func TestMatchHangsOnNothingElse(t *testing.T) {
	for _, v := range []uint32{0, 15, 16, 99} {
		for n := range uint32(5) {
			if !atoms.Match(atom(1, x(v), x(v)), fact(1, n, n)) {
				t.Errorf("R5: Match of the variable %d hangs on what was asked before", v)
			}
		}
	}
}

func TestWhatMatchesWhat(t *testing.T) {
	for _, f := range manyFacts() {
		a, unlike := atoms.Lift(f), atom(f.Pred)
		for i := range f.Args {
			unlike.Args = append(unlike.Args, x(uint32(15+i)))
		}
		for _, g := range manyFacts() {
			if got, want := atoms.Match(a, g), bytes.Equal(toldBytes(f), toldBytes(g)); got != want {
				t.Errorf("P5.4: Match of the ground %v and %v: %v", a, g, got)
			}
			if got, want := atoms.Match(unlike, g), f.Pred == g.Pred && len(f.Args) == len(g.Args); got != want {
				t.Errorf("P5.4: Match of unlike variables %v and %v: %v", unlike, g, got)
			}
		}
	}
}

// puts is an atom with a symbol wherever it has a variable.
func puts(a api.Atom, n, symbol uint32) api.Atom {
	b := atom(a.Pred, slices.Clone(a.Args)...)
	for i, t := range b.Args {
		if t == x(n) {
			b.Args[i] = s(symbol)
		}
	}
	return b
}

func TestWhatAVariableStandsForCanBePutInItsPlace(t *testing.T) {
	for _, a := range manyAtoms() {
		for _, f := range manyFacts() {
			if !atoms.Match(a, f) {
				continue
			}
			whole := a
			for i, term := range a.Args {
				if !term.Var {
					continue
				}
				if b := puts(a, term.N, f.Args[i]); !atoms.Match(b, f) {
					t.Errorf("P5.4: %v matches %v, and %v does not", a, f, b)
				}
				if b := puts(a, term.N, f.Args[i]+1); atoms.Match(b, f) {
					t.Errorf("P5.4: %v matches %v, and so does %v", a, f, b)
				}
				whole = puts(whole, term.N, f.Args[i])
			}
			if g, is := atoms.Of(whole); !is || atoms.Compare(f, g) != 0 {
				t.Errorf("P5.4: %v matches %v, and is %v with all put in", a, f, g)
			}
		}
	}
}

// Atoms and facts of any length are looked at, and soon.
func TestLongOnes(t *testing.T) {
	const n = 300000
	a, f := atom(1), fact(1)
	for i := range uint32(n) {
		a.Args = append(a.Args, x(n-i))
		f.Args = append(f.Args, i)
	}
	if !atoms.Match(a, f) || atoms.Match(a, fact(1, f.Args[1:]...)) || atoms.Ground(a) {
		t.Error("P5.3: a long atom of unlike variables")
	}
	a.Args[n-1] = x(n)
	if atoms.Match(a, f) {
		t.Error("P5.3: a long atom of one variable at two places")
	}
	if l := atoms.Vars(a); len(l) != n-1 || l[0] != 2 || l[n-2] != n || !slices.IsSorted(l) {
		t.Errorf("P5.1: Vars of a long atom: %d", len(l))
	}
	ofFact(t, f)
	if c := atoms.Compare(f, fact(1, f.Args[1:]...)); c != 1 {
		t.Errorf("P5.3: Compare of a long fact and one that is shorter: %d", c)
	}
	if atoms.May(clause(a)) || atoms.May(clause(atom(1), make([]api.Lit, n)...)) {
		t.Error("P5.1: a long clause may be")
	}
}

func TestWhatIsHandedInIsNotChanged(t *testing.T) {
	wholeArgs := []api.Term{x(9), s(4), x(9), x(3), s(77), x(88)}
	wholeFact := []uint32{5, 4, 5, 2, 77, 88}
	a, f := atom(1, wholeArgs[:4]...), fact(1, wholeFact[:4]...)
	wholeBody := []api.Lit{so(a), not(a), so(atom(3))}
	c := clause(a, wholeBody[:2]...)
	args, symbols, body := slices.Clone(wholeArgs), slices.Clone(wholeFact), slices.Clone(wholeBody)
	for range 2 {
		if !atoms.May(c) || !atoms.Same(c, c) || atoms.Ground(a) || !atoms.Match(a, f) || atoms.Compare(f, f) != 0 {
			t.Error("R5: an answer hangs on what was asked before")
		}
		if l := atoms.Vars(a); !slices.Equal(l, []uint32{3, 9}) {
			t.Errorf("R5: Vars: %v", l)
		}
		atoms.Of(a)
		atoms.Of(atom(1, wholeArgs[1:2]...))
		atoms.Lift(f)
	}
	if !slices.Equal(wholeArgs, args) || !slices.Equal(wholeFact, symbols) || !reflect.DeepEqual(wholeBody, body) {
		t.Errorf("R3: what was handed in is changed: %v, %v, %v", wholeArgs, wholeFact, wholeBody)
	}
}

func TestWhatIsAnsweredIsNewMemory(t *testing.T) {
	a, f := atom(1, s(1), s(2), s(3)), fact(1, 1, 2, 3)
	one, _ := atoms.Of(a)
	two, _ := atoms.Of(a)
	up, again := atoms.Lift(f), atoms.Lift(f)
	vars, more := atoms.Vars(atom(1, x(1), x(2))), atoms.Vars(atom(1, x(1), x(2)))
	clear(one.Args)
	clear(up.Args)
	clear(vars)
	_ = append(one.Args[:1], 8, 8)
	_ = append(up.Args[:1], s(8), s(8))
	if !slices.Equal(two.Args, []uint32{1, 2, 3}) || !slices.Equal(f.Args, []uint32{1, 2, 3}) {
		t.Errorf("R3: lists hang together: %v, %v", two, f)
	}
	want := []api.Term{s(1), s(2), s(3)}
	if !slices.Equal(again.Args, want) || !slices.Equal(a.Args, want) || !slices.Equal(more, []uint32{1, 2}) {
		t.Errorf("R3: lists hang together: %v, %v, %v", again, a, more)
	}
}

// fromBytes is a clause, and a fact that may well match its head, out of few symbols.
func fromBytes(b []byte) (api.Clause, api.Fact) {
	take := func() uint32 {
		if len(b) == 0 {
			return 0
		}
		n := b[0]
		b = b[1:]
		return uint32(n)
	}
	some := func() api.Atom {
		a := atom(take() % 2)
		for range take() % 8 {
			n := take()
			a.Args = append(a.Args, api.Term{Var: n%3 > 0, N: n / 3 % 19 * (1 + n/200*0x10000000)})
		}
		return a
	}
	c, f := clause(some()), fact(take()%2)
	for range take() % 10 {
		c.Body = append(c.Body, api.Lit{Not: take()%2 == 0, A: some()})
	}
	for _, t := range c.Head.Args {
		if n := take(); n%4 > 0 {
			f.Args = append(f.Args, t.N%4)
		} else {
			f.Args = append(f.Args, n/4)
		}
	}
	return c, f
}

// asTold holds all calls against the document.
func asTold(t *testing.T, c, d api.Clause, f, g api.Fact) {
	t.Helper()
	if got := atoms.May(c); got != toldMay(c) {
		t.Errorf("P5.1: May of %v: %v", c, got)
	}
	if got := atoms.Same(c, d); got != (toldText(c) == toldText(d)) {
		t.Errorf("P5.1: Same of %v and %v: %v", c, d, got)
	}
	if !atoms.Same(c, c) {
		t.Errorf("P5.1: Same of %v and itself: false", c)
	}
	if got, want := atoms.Compare(f, g), bytes.Compare(toldBytes(f), toldBytes(g)); got != want {
		t.Errorf("P5.3: Compare of %v and %v: %d, not %d", f, g, got, want)
	}
	ofAtom(t, c.Head)
	ofFact(t, f)
	matches(t, c.Head, f)
	matches(t, c.Head, g)
	matches(t, atoms.Lift(f), g)
}

func TestManyByChance(t *testing.T) {
	r := rand.New(rand.NewSource(5))
	matched := 0
	for range 20000 {
		b, b2 := make([]byte, r.Intn(60)), make([]byte, r.Intn(60))
		r.Read(b)
		r.Read(b2)
		c, f := fromBytes(b)
		d, g := fromBytes(b2)
		asTold(t, c, d, f, g)
		if len(f.Args) > 1 && atoms.Match(c.Head, f) {
			matched++
		}
	}
	if matched < 100 {
		t.Errorf("the test itself is wrong: %d match", matched)
	}
}

func FuzzAsTold(f *testing.F) {
	f.Add([]byte{}, []byte{})
	f.Add([]byte{1, 3, 1, 0, 1, 1, 1, 1, 1, 1}, []byte{1, 3, 1, 0, 1, 1, 1, 1, 1, 2})
	f.Add([]byte(strings.Repeat("\x01\x07\x31\x32", 30)), []byte(strings.Repeat("\x01\x07\x31\x33", 30)))
	f.Fuzz(func(t *testing.T, one, two []byte) {
		c, a := fromBytes(one)
		d, b := fromBytes(two)
		asTold(t, c, d, a, b)
	})
}
