package strat_test

import (
	"fmt"
	"math"
	"math/rand"
	"slices"
	"testing"

	"bailey/api"
	"bailey/safe"
	"bailey/strat"
)

// x is a variable, s a symbol.
func x(n uint32) api.Term { return api.Term{Var: true, N: n} }
func s(n uint32) api.Term { return api.Term{N: n} }

func atom(pred uint32, l ...api.Term) api.Atom { return api.Atom{Pred: pred, Args: l} }
func long(pred uint32, n int) api.Atom         { return atom(pred, make([]api.Term, n)...) }

func clause(head api.Atom, body ...api.Lit) api.Clause { return api.Clause{Head: head, Body: body} }
func so(a api.Atom) api.Lit                            { return api.Lit{A: a} }
func not(a api.Atom) api.Lit                           { return api.Lit{Not: true, A: a} }

// rule is a clause of predicates alone: those of the body from 1 on are so, those below are not (-1 is not 1).
func rule(head int, body ...int) api.Clause {
	c := clause(atom(uint32(head)))
	for _, n := range body {
		if n < 0 {
			c.Body = append(c.Body, not(atom(uint32(-n))))
		} else {
			c.Body = append(c.Body, so(atom(uint32(n))))
		}
	}
	return c
}

type program = []api.Clause
type levels = []api.Level
type strata = [][]int

// need says that a head's level is at least so far above that of a literal's predicate.
type need struct {
	head, on uint32
	up       int
}

// needs are what a program asks of levels, one by one.
func needs(l program) (all []need) {
	for _, c := range l {
		for _, b := range c.Body {
			n := need{c.Head.Pred, b.A.Pred, 0}
			if b.Not {
				n.up = 1
			}
			all = append(all, n)
		}
	}
	return all
}

// stand are the predicates that stand in a program, rising.
func stand(l program) (preds []uint32) {
	has := map[uint32]bool{}
	for _, c := range l {
		has[c.Head.Pred] = true
		for _, b := range c.Body {
			has[b.A.Pred] = true
		}
	}
	for p := range has {
		preds = append(preds, p)
	}
	slices.Sort(preds)
	return preds
}

// goesRound: does a way from heads to bodies go round through a Not? Told of each Not, by going on from its predicate.
func goesRound(l program) bool {
	next := map[uint32][]uint32{}
	for _, n := range needs(l) {
		next[n.head] = append(next[n.head], n.on)
	}
	for _, n := range needs(l) {
		been := map[uint32]bool{n.on: true}
		for todo := []uint32{n.on}; n.up > 0 && len(todo) > 0; {
			at := todo[0]
			todo = todo[1:]
			if at == n.head {
				return true
			}
			for _, p := range next[at] {
				if !been[p] {
					been[p] = true
					todo = append(todo, p)
				}
			}
		}
	}
	return false
}

// toldLevels is Levels, told by the text's words: all begin at the least that there is, and are raised where a clause asks for it, no further.
func toldLevels(l program) (levels, api.Errno) {
	if _, e := safe.Right(l); e != api.OK {
		return nil, e
	}
	if goesRound(l) {
		return nil, api.ErrStrat
	}
	of := map[uint32]int{}
	for again := true; again; {
		again = false
		for _, n := range needs(l) {
			if of[n.head] < of[n.on]+n.up {
				of[n.head] = of[n.on] + n.up
				again = true
			}
		}
	}
	var all levels
	for _, p := range stand(l) {
		all = append(all, api.Level{Pred: p, Level: of[p]})
	}
	return all, api.OK
}

// triedLevels is Levels of a right program of few predicates: of all numbers that they could have those that are levels, and of these the least of each.
func triedLevels(l program) (least levels, e api.Errno) {
	preds := stand(l)
	of := map[uint32]int{}
	are := func() bool {
		return !slices.ContainsFunc(needs(l), func(n need) bool { return of[n.head] < of[n.on]+n.up })
	}
	var try func(at int)
	try = func(at int) {
		switch {
		case at < len(preds):
			for n := range len(preds) + 1 {
				of[preds[at]] = n
				try(at + 1)
			}
		case !are():
		case least == nil:
			for _, p := range preds {
				least = append(least, api.Level{Pred: p, Level: of[p]})
			}
		default:
			for i, p := range preds {
				least[i].Level = min(least[i].Level, of[p])
			}
		}
	}
	try(0)
	if least == nil && len(preds) > 0 {
		return nil, api.ErrStrat
	}
	return least, api.OK
}

// toldStrata is Strata of a program that has levels, told level by level.
func toldStrata(l program, told levels) (all strata) {
	of := map[uint32]int{}
	for _, p := range told {
		of[p.Pred] = p.Level
	}
	most := -1
	for _, c := range l {
		most = max(most, of[c.Head.Pred])
	}
	for level := range most + 1 {
		var places []int
		for i, c := range l {
			if of[c.Head.Pred] == level {
				places = append(places, i)
			}
		}
		all = append(all, places)
	}
	return all
}

// same: are two strata? Nil and empty lists are the same, but not no list and an empty one in a list.
func same(a, b strata) bool { return slices.EqualFunc(a, b, slices.Equal[[]int]) }

// each is a list of predicates and their levels, by turns.
func each(l ...int) (all levels) {
	for i := 0; i < len(l); i += 2 {
		all = append(all, api.Level{Pred: uint32(l[i]), Level: l[i+1]})
	}
	return all
}

// short is what a test says of what it handed in.
func short(v any) string {
	text := fmt.Sprint(v)
	return text[:min(len(text), 300)]
}

// answers says what both calls answer.
func answers(t testing.TB, what string, l program, want levels, places strata, e api.Errno) {
	t.Helper()
	if got, f := strat.Levels(l); !slices.Equal(got, want) || f != e {
		t.Errorf("P12.1: %s: Levels of %s: %s, %v, not %s, %v", what, short(l), short(got), f, short(want), e)
	}
	if got, f := strat.Strata(l); !same(got, places) || f != e {
		t.Errorf("P12.2: %s: Strata of %s: %s, %v, not %s, %v", what, short(l), short(got), f, short(places), e)
	}
}

// asTold holds both calls against the document.
func asTold(t testing.TB, what string, l program) (levels, api.Errno) {
	t.Helper()
	want, e := toldLevels(l)
	var places strata
	if e == api.OK {
		places = toldStrata(l, want)
	}
	answers(t, what, l, want, places, e)
	return want, e
}

// is holds both calls against the document, and against what the test asks: the level of each predicate, these rising.
func is(t *testing.T, what string, l program, numbers ...int) {
	t.Helper()
	told, e := asTold(t, what, l)
	if e != api.OK || !slices.EqualFunc(told, numbers, func(p api.Level, n int) bool { return p.Level == n }) {
		t.Fatalf("the test itself is wrong: %s: %s, %v, not %s", what, short(told), e, short(numbers))
	}
}

// fails says that neither call has an answer, but an error.
func fails(t *testing.T, what string, l program, e api.Errno) {
	t.Helper()
	if _, told := asTold(t, what, l); told != e {
		t.Fatalf("the test itself is wrong: %s: %v, not %v", what, told, e)
	}
}

const p, q, r = 1, 2, 3

func TestTheDocumentsExamples(t *testing.T) {
	answers(t, "p :- not q, q :- r", program{rule(p, -q), rule(q, r)}, each(p, 1, q, 0, r, 0), strata{{1}, {0}}, api.OK)
	answers(t, "p :- not q, q :- p", program{rule(p, -q), rule(q, p)}, nil, nil, api.ErrStrat)
}

func TestFew(t *testing.T) {
	for _, c := range []struct {
		what   string
		l      program
		want   levels
		places strata
	}{
		{"nil", nil, nil, nil},
		{"no clauses", program{}, nil, nil},
		{"one of nothing", program{{}}, each(0, 0), strata{{0}}},
		{"some of nothing", make(program, 3), each(0, 0), strata{{0, 1, 2}}},
		{"empty lists", program{{Head: api.Atom{Args: []api.Term{}}, Body: []api.Lit{}}}, each(0, 0), strata{{0}}},
		{"a predicate of bodies alone", program{rule(p, q)}, each(p, 0, q, 0), strata{{0}}},
		{"one that is not so", program{rule(p, -q)}, each(p, 1, q, 0), strata{nil, {0}}},
		{"the head has the greater number", program{rule(q, -p)}, each(p, 0, q, 1), strata{nil, {0}}},
		{"itself", program{rule(p, p)}, each(p, 0), strata{{0}}},
		{"so and not so", program{rule(p, q, -q)}, each(p, 1, q, 0), strata{nil, {0}}},
		{"not so and so", program{rule(p, -q, q)}, each(p, 1, q, 0), strata{nil, {0}}},
		{"twice", program{rule(p, -q, -q)}, each(p, 1, q, 0), strata{nil, {0}}},
		{"a clause is told twice", program{rule(p, -q), rule(p, -q)}, each(p, 1, q, 0), strata{nil, {0, 1}}},
		{"two clauses of one head", program{rule(p, -q), rule(p, r), rule(p)}, each(p, 1, q, 0, r, 0), strata{nil, {0, 1, 2}}},
		{"the higher one behind", program{rule(p), rule(p, r), rule(p, -q)}, each(p, 1, q, 0, r, 0), strata{nil, {0, 1, 2}}},
		{"two Nots, one behind the other", program{rule(p, -q), rule(q, -r)}, each(p, 2, q, 1, r, 0), strata{nil, {1}, {0}}},
		{"in the other order", program{rule(q, -r), rule(p, -q)}, each(p, 2, q, 1, r, 0), strata{nil, {0}, {1}}},
		{"two Nots, beside each other", program{rule(p, -q, -r)}, each(p, 1, q, 0, r, 0), strata{nil, {0}}},
		{"through one that is so", program{rule(p, q), rule(q, -r)}, each(p, 1, q, 1, r, 0), strata{nil, {0, 1}}},
		{"the greatest of a body", program{rule(4, p, q, r), rule(q, -r)}, each(p, 0, q, 1, r, 0, 4, 1), strata{nil, {0, 1}}},
		{"the greatest of a body, that is not so", program{rule(4, -r, p, -q), rule(q, -r)}, each(p, 0, q, 1, r, 0, 4, 2), strata{nil, {1}, {0}}},
		{"a loop of what is so", program{rule(p, q), rule(q, p)}, each(p, 0, q, 0), strata{{0, 1}}},
		{"a loop above a Not", program{rule(p, q), rule(q, p), rule(p, -r)}, each(p, 1, q, 1, r, 0), strata{nil, {0, 1, 2}}},
		{"a Not from another one of the loop", program{rule(p, q), rule(q, p), rule(q, -r)}, each(p, 1, q, 1, r, 0), strata{nil, {0, 1, 2}}},
		{"a Not to a loop", program{rule(p, q), rule(q, p), rule(r, -p)}, each(p, 0, q, 0, r, 1), strata{{0, 1}, {2}}},
		{"a Not between two loops", program{rule(p, q), rule(q, p), rule(q, -r), rule(r, 4), rule(4, r)}, each(p, 1, q, 1, r, 0, 4, 0), strata{{3, 4}, {0, 1, 2}}},
		{"nothing that hangs together", program{rule(p), rule(r, -q), rule(5), rule(7, -6)}, each(p, 0, q, 0, r, 1, 5, 0, 6, 0, 7, 1), strata{{0, 2}, {1, 3}}},
		{"the ends of numbers", program{clause(atom(math.MaxUint32), not(atom(0))), clause(atom(1<<31), so(atom(math.MaxUint32)), not(atom(1<<31-1)))},
			each(0, 0, 1<<31-1, 0, 1<<31, 1, math.MaxUint32, 1), strata{nil, {0, 1}}},
		{"Args say nothing", program{clause(atom(p, x(0)), so(atom(q, x(0), s(p))), not(atom(r, x(0)))), clause(atom(r, s(p)), so(atom(q, s(p), x(1))))},
			each(p, 1, q, 0, r, 0), strata{{1}, {0}}},
	} {
		answers(t, c.what, c.l, c.want, c.places, api.OK)
		asTold(t, c.what, c.l)
	}
}

func TestNoLevels(t *testing.T) {
	for _, c := range []struct {
		what string
		l    program
	}{
		{"itself", program{rule(p, -p)}},
		{"itself, so and not so", program{rule(p, p, -p)}},
		{"itself, and something that holds", program{clause(atom(p, x(0)), so(atom(q, x(0))), not(atom(p, x(0))))}},
		{"another one of its predicate", program{clause(atom(p, s(1)), not(atom(p, s(2))))}},
		{"p(X) :- q(X, Y), not p(Y)", program{clause(atom(p, x(0)), so(atom(q, x(0), x(1))), not(atom(p, x(1))))}},
		{"0", program{{Body: []api.Lit{{Not: true}}}}},
		{"the greatest number", program{clause(atom(math.MaxUint32), not(atom(math.MaxUint32)))}},
		{"two Nots round", program{rule(p, -q), rule(q, -p)}},
		{"three Nots round", program{rule(p, -q), rule(q, -r), rule(r, -p)}},
		{"one Not of three", program{rule(p, q), rule(q, -r), rule(r, p)}},
		{"in a body of others", program{rule(p, 4, q, -5), rule(q, 4, -p, -6)}},
		{"in other clauses", program{rule(p, 4), rule(q, r), rule(p, -q), rule(q), rule(q, 4, p), rule(p)}},
		{"below others that have levels", program{rule(7, -6), rule(6, -p), rule(p, -p)}},
		{"above others that have levels", program{rule(p, -p, 6), rule(6, -7), rule(7, 5)}},
		{"beside others that have levels", program{rule(6, -7), rule(p, q), rule(q, -p), rule(5, 4)}},
		{"one Not out of the loop, and one in it", program{rule(p, q), rule(q, -r), rule(q, p), rule(p, -q)}},
		{"twice round", program{rule(p, q), rule(q, p), rule(q, r), rule(r, -q)}},
	} {
		fails(t, c.what, c.l, api.ErrStrat)
	}
}

// What safe says of a program is said, wherever it is wrong, and whether there would be levels or not.
func TestProgramsThatAreNotRight(t *testing.T) {
	round := program{rule(p, -q), rule(q, p)}
	sound := program{rule(p, -q), rule(q, r)}
	nine := rule(9)
	for range 9 {
		nine.Body = append(nine.Body, not(atom(9)))
	}
	for _, c := range []struct {
		what string
		bad  api.Clause
		e    api.Errno
	}{
		{"seven Args", clause(long(9, 7)), api.ErrForm},
		{"seven Args of one that is so", clause(atom(9), so(long(8, 7))), api.ErrForm},
		{"seven Args of one that is not", clause(atom(9), not(long(9, 7))), api.ErrForm},
		{"a variable that may not be", clause(atom(9), so(atom(8, x(16)))), api.ErrForm},
		{"a body of nine", nine, api.ErrForm},
		{"a head that nothing holds", clause(atom(9, x(0))), api.ErrSafe},
		{"one that is not so, and nothing holds", clause(atom(9), not(atom(8, x(0)))), api.ErrSafe},
		{"itself not, and nothing holds", clause(atom(9, x(0)), not(atom(9, x(0)))), api.ErrSafe},
		{"two lengths in one", clause(long(9, 1), not(long(9, 2))), api.ErrArity},
		{"another length than ahead", clause(long(p, 1)), api.ErrArity},
		{"another length than ahead, in a body", clause(atom(9), not(long(q, 1))), api.ErrArity},
	} {
		for _, l := range []program{round, sound} {
			fails(t, c.what+", behind", append(slices.Clone(l), c.bad), c.e)
			fails(t, c.what+", ahead", slices.Concat(program{c.bad}, l), c.e)
			fails(t, c.what+", between", slices.Insert(slices.Clone(l), 1, c.bad), c.e)
		}
		l := append(slices.Clone(round), c.bad)
		fails(t, c.what+", and another one behind", append(l, clause(atom(20, x(99))), clause(atom(21, x(1)))), c.e)
		fails(t, c.what+", and too many", append(l, make(program, 398)...), api.ErrMany)
	}
}

// The limit of clauses, and one more, of each kind of program.
func TestHowManyClauses(t *testing.T) {
	for _, n := range []int{398, 399, 400, 401, 402, 1000, 1 << 17} {
		for _, c := range []struct {
			what string
			one  api.Clause
			e    api.Errno
		}{
			{"of nothing", api.Clause{}, api.OK},
			{"of one that is not so", rule(p, -q), api.OK},
			{"of itself", rule(p, -p), api.ErrStrat},
			{"that may not be", clause(long(p, 7)), api.ErrForm},
		} {
			if e := c.e; n > 400 {
				e = api.ErrMany
				fails(t, fmt.Sprint(n, " ", c.what), slices.Repeat(program{c.one}, n), e)
			} else if e != api.OK {
				fails(t, fmt.Sprint(n, " ", c.what), slices.Repeat(program{c.one}, n), e)
			} else {
				asTold(t, fmt.Sprint(n, " ", c.what), slices.Repeat(program{c.one}, n))
			}
		}
	}
	if api.MaxClauses != 400 || api.MaxArity != 6 || api.MaxBody != 8 || api.MaxVars != 16 {
		t.Error("the test itself is wrong: its limits are others")
	}
}

// small is a program of few predicates: each two of them are not joined (0), or by one that is so (1), is not (2), or both (3); in a clause for each, or in one for each head.
func small(n int, joins []int, apart bool) (l program) {
	for head := range n {
		c := rule(head + 1)
		for on := range n {
			one := [][]int{nil, {on + 1}, {-on - 1}, {on + 1, -on - 1}}[joins[head*n+on]]
			if apart {
				for _, b := range one {
					l = append(l, rule(head+1, b))
				}
			} else {
				c.Body = append(c.Body, rule(0, one...).Body...)
			}
		}
		if len(c.Body) > 0 {
			l = append(l, c)
		}
	}
	return l
}

// Every program of up to three predicates, held against all levels that could be.
func TestEverySmallProgram(t *testing.T) {
	ok, round := 0, 0
	for _, c := range []struct{ n, kinds int }{{1, 4}, {2, 4}, {3, 3}} {
		joins := make([]int, c.n*c.n)
		for at := 0; at < len(joins); {
			for _, apart := range []bool{false, true} {
				l := small(c.n, joins, apart)
				told, e := asTold(t, "a small one", l)
				if tried, f := triedLevels(l); !slices.Equal(tried, told) || f != e {
					t.Fatalf("the test itself is wrong: %s: %v, %v, or %v, %v", short(l), told, e, tried, f)
				}
				if e == api.OK {
					ok++
				} else {
					round++
				}
			}
			for at = 0; at < len(joins); at++ { // the next ones, as a number is counted up
				if joins[at]++; joins[at] < c.kinds {
					break
				}
				joins[at] = 0
			}
		}
	}
	if ok < 1000 || round < 1000 {
		t.Errorf("the test itself is wrong: %d with levels, %d without", ok, round)
	}
}

// loop leads from each of some predicates to the next one, and from the last one to the first one.
func loop(names []int) (l program) {
	for i, n := range names {
		l = append(l, rule(n, names[(i+1)%len(names)]))
	}
	return l
}

// A loop of each length: without a Not all is on one level, with one at any place there are no levels.
func TestEachLoop(t *testing.T) {
	g := rand.New(rand.NewSource(12))
	for n := 1; n <= 20; n++ {
		for at := range n {
			names := g.Perm(n)
			l := loop(names)
			is(t, "a loop", l, make([]int, n)...)
			l[at].Body[0].Not = true
			fails(t, "a loop with a Not", l, api.ErrStrat)
			g.Shuffle(n, func(i, k int) { l[i], l[k] = l[k], l[i] })
			fails(t, "in another order", l, api.ErrStrat)
			for i := range l {
				l[i].Body[0].Not = !l[i].Body[0].Not
			}
			if n > 1 {
				fails(t, "all the others are Not", l, api.ErrStrat)
			}
			l[at].Body = nil // the loop is cut open
			if _, e := asTold(t, "one that is no loop any more", l); e != api.OK {
				t.Errorf("P12.3: a loop that is cut open: %v", e)
			}
		}
	}
}

// chain leads from each predicate to the one before, the first one to 0.
func chain(n int, isNot bool) (l program) {
	for i := range n {
		l = append(l, clause(atom(uint32(i+1)), api.Lit{Not: isNot, A: atom(uint32(i))}))
	}
	return l
}

// upTo are the numbers from 0 to one below n.
func upTo(n int) (l []int) {
	for i := range n {
		l = append(l, i)
	}
	return l
}

// turned is a list, the last one ahead.
func turned[T any](l []T) []T {
	l = slices.Clone(l)
	slices.Reverse(l)
	return l
}

// As many levels as may be: no level is above the number of predicates, less one.
func TestTheLongestChain(t *testing.T) {
	g := rand.New(rand.NewSource(13))
	for _, n := range []int{1, 2, 3, 64, 255, 256, 257, 399, 400} {
		l := chain(n, true)
		is(t, "P12.3: a chain of Nots", l, upTo(n+1)...)
		is(t, "P12.3: a chain of Nots, the last one ahead", turned(l), upTo(n+1)...)
		g.Shuffle(n, func(i, k int) { l[i], l[k] = l[k], l[i] })
		is(t, "P12.3: a chain of Nots, in any order", l, upTo(n+1)...)
		is(t, "a chain of what is so", chain(n, false), make([]int, n+1)...)
		for i, c := range l { // the numbers turned round
			l[i] = rule(n-int(c.Head.Pred), -(n - int(c.Body[0].A.Pred)))
			l[i].Body[0].Not = true // of 0 too
		}
		is(t, "P12.3: a chain from the greatest number on", l, turned(upTo(n+1))...)
	}
	for _, at := range []int{0, 1, 200, 398, 399} { // the chain leads back, through a Not or not
		l := chain(400, false)
		l[0].Body[0].A.Pred = 400
		is(t, "400 round", l, make([]int, 400)...)
		l[at].Body[0].Not = true
		fails(t, "400 round, through a Not", l, api.ErrStrat)
	}
}

// As many predicates as may be: each atom of the largest program has its own.
func TestTheMostPredicates(t *testing.T) {
	for _, isNot := range []bool{false, true} {
		var l program
		var numbers []int
		for i := range uint32(400) {
			c := clause(atom(math.MaxUint32-i*9, s(1), s(2), s(3), s(4), s(5), s(6)))
			for k := range uint32(8) {
				c.Body = append(c.Body, api.Lit{Not: isNot && k == i%8, A: atom(math.MaxUint32-i*9-k-1, s(6), s(5), s(4), s(3), s(2), s(1))})
			}
			l = append(l, c)
			numbers = append(numbers, 0, 0, 0, 0, 0, 0, 0, 0, 0)
			if isNot {
				numbers[len(numbers)-1] = 1
			}
		}
		is(t, "3600 predicates", l, numbers...)
		if got, e := strat.Levels(l); len(got) != 3600 || e != api.OK {
			t.Errorf("P12.1: %d of 3600 predicates, %v", len(got), e)
		}
		l[399].Body[7] = not(l[399].Head)
		fails(t, "3600 predicates, the last one of itself", l, api.ErrStrat)
	}
	full := slices.Repeat(program{rule(p, q, q, q, q, q, q, q, q)}, 400)
	is(t, "3200 literals of one predicate", full, 0, 0)
	full[399].Body[7].Not = true
	is(t, "one of 3200 is Not", full, 1, 0)
	full[0].Body[0].A.Pred, full[0].Body[0].Not = p, true
	fails(t, "one of 3200 leads back", full, api.ErrStrat)
}

// byChance is a right program of few or many predicates. Of a Not the predicate is mostly one below the head.
func byChance(g *rand.Rand) (l program) {
	preds, wild := 1+g.Intn(12), g.Intn(30)
	if g.Intn(10) == 0 {
		preds = 100
	}
	spread := uint32(1 + g.Intn(3)*1000003)
	names := g.Perm(preds)
	lit := func(head int) api.Lit {
		on, isNot := g.Intn(preds), false
		if g.Intn(3) == 0 {
			isNot = true
			if g.Intn(100) >= wild && head > 0 {
				on = g.Intn(head)
			}
		} else if g.Intn(100) >= wild {
			on = g.Intn(head + 1)
		}
		if isNot && on >= head && g.Intn(100) >= wild {
			isNot = false
		}
		return api.Lit{Not: isNot, A: atom(uint32(names[on])*spread, s(uint32(g.Intn(3))))}
	}
	for range g.Intn(3 * preds) {
		head := g.Intn(preds)
		c := clause(atom(uint32(names[head])*spread, s(uint32(g.Intn(3)))))
		for range g.Intn(5) {
			c.Body = append(c.Body, lit(head))
		}
		l = append(l, c)
	}
	return l
}

// follows holds what the document says to follow against a program that is right.
func follows(t testing.TB, l program) {
	t.Helper()
	all, e := strat.Levels(l)
	if (e == api.ErrStrat) != goesRound(l) || e != api.OK && e != api.ErrStrat {
		t.Fatalf("P12.3: Levels of %s: %v", short(l), e)
	}
	places, f := strat.Strata(l)
	if f != e {
		t.Fatalf("P12.2: Strata of %s: %v, but Levels %v", short(l), f, e)
	}
	if e != api.OK {
		return
	}
	of := map[uint32]int{}
	for i, p := range all {
		if p.Level < 0 || p.Level > len(all)-1 || i > 0 && all[i-1].Pred >= p.Pred {
			t.Fatalf("P12.3: Levels of %s: %s", short(l), short(all))
		}
		of[p.Pred] = p.Level
	}
	for _, n := range needs(l) {
		if of[n.head] < of[n.on]+n.up {
			t.Fatalf("P12.1: Levels of %s: %s: those of %d and %d are none", short(l), short(all), n.head, n.on)
		}
	}
	been, most := map[int]bool{}, -1
	for level, list := range places {
		for i, at := range list {
			if i > 0 && list[i-1] >= at || at < 0 || at >= len(l) || of[l[at].Head.Pred] != level {
				t.Fatalf("P12.2: Strata of %s: %s", short(l), short(places))
			}
			been[at], most = true, level
		}
	}
	if len(been) != len(l) || most != len(places)-1 {
		t.Fatalf("P12.2: Strata of %s: %s: one is missing, or the last one has none", short(l), short(places))
	}
}

func TestManyByChance(t *testing.T) {
	g := rand.New(rand.NewSource(121))
	found, high := map[api.Errno]int{}, 0
	for range 12000 {
		l := byChance(g)
		told, e := asTold(t, "by chance", l)
		follows(t, l)
		found[e]++
		if slices.ContainsFunc(told, func(p api.Level) bool { return p.Level > 2 }) {
			high++
		}
	}
	if found[api.OK] < 2000 || found[api.ErrStrat] < 2000 || len(found) != 2 || high < 500 {
		t.Errorf("the test itself is wrong: %v, %d of them high", found, high)
	}
}

// The order of clauses and of literals, and how often they are there, says nothing to levels; that of clauses alone their places.
func TestTheOrderSaysNothing(t *testing.T) {
	g := rand.New(rand.NewSource(122))
	for range 2000 {
		l := byChance(g)
		if len(l) == 0 {
			continue
		}
		want, e := strat.Levels(l)
		for range 4 {
			m := append(slices.Clone(l), l[g.Intn(len(l))], l[g.Intn(len(l))])
			g.Shuffle(len(m), func(i, k int) { m[i], m[k] = m[k], m[i] })
			for i := range m {
				m[i].Body = slices.Clone(m[i].Body)
				b := m[i].Body
				g.Shuffle(len(b), func(i, k int) { b[i], b[k] = b[k], b[i] })
			}
			if got, f := strat.Levels(m); !slices.Equal(got, want) || f != e {
				t.Fatalf("P12.1: Levels of %s: %s, %v; in another order: %s, %v", short(l), short(want), e, short(got), f)
			}
			asTold(t, "in another order", m)
		}
	}
}

// Without its Nots each program has one level; a beginning of one that has levels has them too, and none is above its own.
func TestPartsOfPrograms(t *testing.T) {
	g := rand.New(rand.NewSource(123))
	for range 300 {
		l := byChance(g)
		whole, e := strat.Levels(l)
		of := map[uint32]int{}
		for _, p := range whole {
			of[p.Pred] = p.Level
		}
		for n := range len(l) + 1 {
			part, f := asTold(t, "a beginning", l[:n])
			if e == api.OK && (f != api.OK || slices.ContainsFunc(part, func(p api.Level) bool { return p.Level > of[p.Pred] })) {
				t.Fatalf("P12.1: Levels of %s: %s; of the first %d: %s, %v", short(l), short(whole), n, short(part), f)
			}
		}
		for i := range l {
			l[i].Body = slices.Clone(l[i].Body)
			for k := range l[i].Body {
				l[i].Body[k].Not = false
			}
		}
		is(t, "P12.3: no Nots", l, make([]int, len(stand(l)))...)
	}
}

// With room behind the end of each list that it has.
func roomy(l program) (whole program) {
	spare := func(a api.Atom) api.Atom {
		return api.Atom{Pred: a.Pred, Args: append(slices.Clone(a.Args), x(9), s(99))[:len(a.Args)]}
	}
	for _, c := range l {
		d := clause(spare(c.Head))
		for _, b := range c.Body {
			d.Body = append(d.Body, api.Lit{Not: b.Not, A: spare(b.A)})
		}
		d.Body = append(d.Body, not(d.Head), not(atom(99)))[:len(c.Body)]
		whole = append(whole, d)
	}
	return append(whole, rule(98, -98), rule(97, -99))
}

// text is all that a program has, and what stands behind the ends of its lists.
func text(l program) string {
	out := fmt.Sprint(l[:cap(l)])
	for _, c := range l {
		out += fmt.Sprint(c.Head.Args[:cap(c.Head.Args)], c.Body[:cap(c.Body)])
		for _, b := range c.Body {
			out += fmt.Sprint(b.A.Args[:cap(b.A.Args)])
		}
	}
	return out
}

// R3: what is handed in is not changed, the room behind lists' ends neither; R5: and each call is answered anew.
func TestWhatIsHandedInIsNotChanged(t *testing.T) {
	for _, l := range []program{
		{rule(p, -q), rule(q, r)},
		{rule(5, -4), rule(4, -3), rule(3, 2, 1), rule(1, 2)},
		{rule(p, -q), rule(q, p)},
		{clause(atom(p, x(1), s(2)), so(atom(q, x(1))), not(atom(r, x(1)))), clause(atom(r, s(1)), not(atom(q, s(1))))},
		{clause(atom(p, x(0)))},
		{},
	} {
		whole := roomy(l)
		kept := text(whole)
		for range 3 {
			asTold(t, "R5: with room behind its end", whole[:len(l)])
		}
		if got := text(whole); got != kept {
			t.Errorf("R3: what was handed in is changed: %s, not %s", got, kept)
		}
	}
}

// R3: each list that is answered is its own, and nothing of what was handed in is kept.
func TestWhatIsAnsweredIsNewMemory(t *testing.T) {
	l := program{rule(5, -4), rule(4, -3), rule(3, 2, 1), rule(6, -4), rule(1, 2), rule(7)}
	want, _ := strat.Levels(l)
	kept := slices.Clone(want)
	places, _ := strat.Strata(l)
	told := strata{{2, 4, 5}, {1}, {0, 3}}
	if !same(places, told) {
		t.Fatalf("P12.2: Strata of %s: %v", short(l), places)
	}
	for i := range places {
		_ = append(places[i], 99, 98, 97) // the room behind one list must not be a part of another one
	}
	if !same(places, told) {
		t.Errorf("R3: two lists hang together: %v", places)
	}
	again, _ := strat.Levels(l)
	clear(again[:cap(again)])
	other, _ := strat.Strata(l)
	for i := range other {
		clear(other[i][:cap(other[i])])
	}
	clear(other[:cap(other)])
	for i := range l {
		l[i].Head.Pred = 77
		clear(l[i].Body)
	}
	clear(l)
	if !slices.Equal(want, kept) || !same(places, told) {
		t.Errorf("R3: two answers hang together, or clauses are kept: %v, %v", want, places)
	}
}

// R5: nothing of one call stays for the next one.
func TestCallsDoNotHangTogether(t *testing.T) {
	for range 3 {
		is(t, "p above q", program{rule(p, -q)}, 1, 0)
		is(t, "q above p", program{rule(q, -p)}, 0, 1)
		fails(t, "both", program{rule(p, -q), rule(q, -p)}, api.ErrStrat)
		is(t, "neither", program{rule(p, q), rule(q, p)}, 0, 0)
		fails(t, "not right", program{clause(atom(p, x(0)))}, api.ErrSafe)
		is(t, "p of another length", program{clause(long(p, 3), not(long(q, 2)))}, 1, 0)
		is(t, "nothing", nil)
	}
}

// R1: what is far too much ends too.
func TestVeryLargeOnes(t *testing.T) {
	const n = 1 << 20
	fails(t, "very many clauses", make(program, n), api.ErrMany)
	fails(t, "a very long head", program{clause(long(p, n))}, api.ErrForm)
	fails(t, "a very long body", program{clause(atom(p), make([]api.Lit, n)...)}, api.ErrForm)
	fails(t, "a very long atom", program{rule(q, -q), clause(atom(p), not(long(p, n)))}, api.ErrForm)
}

// saidBy is a program that bytes say.
func saidBy(b []byte) (l program) {
	for len(b) > 0 {
		c := rule(int(b[0] % 16))
		n := int(b[0] / 16 % 10)
		b = b[1:]
		for ; n > 0 && len(b) > 0; n-- {
			c.Body = append(c.Body, api.Lit{Not: b[0]%4 == 3, A: atom(uint32(b[0] / 4 % 16))})
			if b[0] > 250 {
				c.Body[len(c.Body)-1].A.Args = []api.Term{x(uint32(b[0] - 250))}
			}
			b = b[1:]
		}
		l = append(l, c)
	}
	return l
}

func TestManyBytesByChance(t *testing.T) {
	g := rand.New(rand.NewSource(124))
	for range 30000 {
		b := make([]byte, g.Intn(40))
		g.Read(b)
		asTold(t, "as bytes say", saidBy(b))
	}
}

func FuzzAsTold(f *testing.F) {
	f.Add([]byte{})
	f.Add([]byte{0x11, 0x0b, 0x12, 0x0c})
	f.Add([]byte{0x11, 0x0b, 0x12, 0x04})
	f.Add([]byte{0x41, 8, 12, 16, 23, 0x42, 4, 4, 12, 27, 0x24, 20, 31})
	f.Fuzz(func(t *testing.T, b []byte) {
		l := saidBy(b)
		asTold(t, "as bytes say", l)
		if _, e := safe.Right(l); e == api.OK {
			follows(t, l)
		}
	})
}
