package rel_test

import (
	"encoding/binary"
	"fmt"
	"math"
	"math/rand"
	"slices"
	"sort"
	"strings"
	"testing"

	"bailey/api"
	"bailey/rel"
)

// x is a variable, s a symbol.
func x(n uint32) api.Term { return api.Term{Var: true, N: n} }
func s(n uint32) api.Term { return api.Term{N: n} }

func atom(pred uint32, l ...api.Term) api.Atom { return api.Atom{Pred: pred, Args: l} }
func fact(pred uint32, l ...uint32) api.Fact   { return api.Fact{Pred: pred, Args: l} }

type facts = []api.Fact

// edges are numbers at the edges of what a number can be, rising.
var edges = []uint32{0, 1, 1<<31 - 1, 1 << 31, math.MaxUint32 - 1, math.MaxUint32}

// over are all lists of the things, of so many at most.
func over[T any](things []T, most int) [][]T {
	all := [][]T{nil}
	for from, n := 0, 0; n < most; n++ {
		to := len(all)
		for _, l := range all[from:to] {
			for _, t := range things {
				all = append(all, append(slices.Clone(l), t))
			}
		}
		from = to
	}
	return all
}

// manyFacts are all of few symbols.
func manyFacts() (all facts) {
	for _, l := range over([]uint32{0, 1, math.MaxUint32}, 3) {
		all = append(all, fact(7, l...), fact(8, l...))
	}
	return all
}

// edgeFacts are at the edges of what numbers can be, nearly alike, and long.
func edgeFacts() facts {
	all := facts{fact(3, make([]uint32, 100)...), fact(3, make([]uint32, 101)...), fact(3, append(make([]uint32, 99), 1)...)}
	for _, n := range edges {
		all = append(all, fact(n), fact(3, n, 5), fact(3, 5, n), fact(n, 5, 5, 5), fact(n, math.MaxUint32), fact(3, 1, 2, 3, 4, 5, n), fact(3, 1, 2, 3, 4, 5, 6, n))
	}
	return all
}

// manyAtoms are all of few terms.
func manyAtoms() (all []api.Atom) {
	for _, l := range over([]api.Term{s(0), s(1), s(math.MaxUint32), x(0), x(1), x(16)}, 3) {
		all = append(all, atom(7, l...), atom(8, l...))
	}
	return all
}

// toldName is a fact's, in a form whose order is that of facts.
func toldName(f api.Fact) string {
	b := binary.BigEndian.AppendUint32(nil, f.Pred)
	b = binary.BigEndian.AppendUint64(b, uint64(len(f.Args)))
	for _, n := range f.Args {
		b = binary.BigEndian.AppendUint32(b, n)
	}
	return string(b)
}

// toldMatch is what an atom matches, told of every two places.
func toldMatch(a api.Atom, f api.Fact) bool {
	if a.Pred != f.Pred || len(a.Args) != len(f.Args) {
		return false
	}
	for i, t := range a.Args {
		for k, u := range a.Args {
			if t.Var && t == u && f.Args[i] != f.Args[k] {
				return false
			}
		}
		if !t.Var && t.N != f.Args[i] {
			return false
		}
	}
	return true
}

// told is a set as the document tells it, of names alone.
type told map[string]api.Fact

func toldOf(l facts) told {
	t := told{}
	for _, f := range l {
		t.put(f)
	}
	return t
}

func (t told) has(f api.Fact) bool {
	_, is := t[toldName(f)]
	return is
}

func (t told) put(f api.Fact) bool {
	is := t.has(f)
	t[toldName(f)] = fact(f.Pred, slices.Clone(f.Args)...)
	return !is
}

func (t told) cut(f api.Fact) bool {
	is := t.has(f)
	delete(t, toldName(f))
	return is
}

func (t told) list() (l facts) {
	var names []string
	for name := range t {
		names = append(names, name)
	}
	sort.Strings(names)
	for _, name := range names {
		l = append(l, t[name])
	}
	return l
}

func (t told) find(a api.Atom) (l facts) {
	for _, f := range t.list() {
		if toldMatch(a, f) {
			l = append(l, f)
		}
	}
	return l
}

func (t told) less(u told) told {
	l := told{}
	for name, f := range t {
		if _, is := u[name]; !is {
			l[name] = f
		}
	}
	return l
}

// alike: are two lists of facts? Nil and empty ones are.
func alike(l, m facts) bool {
	return slices.EqualFunc(l, m, func(f, g api.Fact) bool { return toldName(f) == toldName(g) })
}

// short is a list as it may be told when something is wrong.
func short(l facts) facts { return l[:min(len(l), 20)] }

// lists holds what a call tells against what the document says.
func lists(t *testing.T, what string, got, want facts) {
	t.Helper()
	if !alike(got, want) {
		t.Errorf("%s: %d, %v, not %d, %v", what, len(got), short(got), len(want), short(want))
	}
}

// holds: has the set just these facts, whichever call tells it?
func holds(t *testing.T, what string, r *rel.Rel, want told) {
	t.Helper()
	lists(t, what+": List", r.List(), want.list())
	if r.Len() != len(want) {
		t.Errorf("%s: Len: %d, not %d", what, r.Len(), len(want))
	}
	for _, f := range want {
		if !r.Has(f) {
			t.Errorf("%s: Has of %v: false", what, f)
		}
	}
}

// has holds Has of each of a list.
func has(t *testing.T, what string, r *rel.Rel, l facts, want told) {
	t.Helper()
	for _, f := range l {
		if got := r.Has(f); got != want.has(f) {
			t.Errorf("%s: Has of %v: %v", what, f, got)
		}
	}
}

// puts and cuts do the same to a set and to what is told of it.
func puts(t *testing.T, r *rel.Rel, want told, f api.Fact) {
	t.Helper()
	if got, is := r.Put(f), want.put(f); got != is {
		t.Errorf("P10.1: Put of %v: %v", f, got)
	}
}

func cuts(t *testing.T, r *rel.Rel, want told, f api.Fact) {
	t.Helper()
	if got, is := r.Cut(f), want.cut(f); got != is {
		t.Errorf("P10.1: Cut of %v: %v", f, got)
	}
}

// finds holds Find against the document.
func finds(t *testing.T, r *rel.Rel, want told, a api.Atom) {
	t.Helper()
	lists(t, fmt.Sprint("P10.2: Find of ", a), r.Find(a), want.find(a))
}

func TestTheDocumentsExamples(t *testing.T) {
	a, b := fact(1, 1), fact(1, 2)
	r := rel.New()
	if one, two, three := r.Put(b), r.Put(a), r.Put(b); !one || !two || three {
		t.Errorf("P10.1: Put of p(b), p(a), p(b): %v, %v, %v", one, two, three)
	}
	lists(t, "P10.2: List, in the examples", r.List(), facts{a, b})
	if n := r.Len(); n != 2 {
		t.Errorf("P10.1: Len, in the examples: %d", n)
	}
	lists(t, "P10.2: Find of p(X)", r.Find(atom(1, x(0))), facts{a, b})
	lists(t, "P10.2: Find of p(X, Y)", r.Find(atom(1, x(0), x(1))), nil)
	if one, two := r.Cut(a), r.Cut(a); !one || two {
		t.Errorf("P10.1: Cut of p(a), p(a): %v, %v", one, two)
	}
	holds(t, "P10.1: the examples", r, toldOf(facts{b}))
}

// ofNone holds each call of a set that has none; nothing is put.
func ofNone(t *testing.T, what string, r *rel.Rel) {
	t.Helper()
	some := append(manyFacts(), edgeFacts()...)
	holds(t, what, r, nil)
	has(t, what, r, some, nil)
	for _, f := range some {
		cuts(t, r, told{}, f)
		lists(t, what+": Find", r.Find(api.Atom{Pred: f.Pred, Args: make([]api.Term, len(f.Args))}), nil)
	}
	for _, a := range manyAtoms() {
		finds(t, r, nil, a)
	}
	for _, other := range []*rel.Rel{nil, rel.New(), rel.Of(some), r} {
		less := r.Less(other)
		if less == nil {
			t.Fatalf("%s: Less answers no set", what)
		}
		holds(t, what+": Less", less, nil)
		puts(t, less, told{}, fact(1, 2))
	}
	less := rel.Of(some).Less(r)
	holds(t, what+": all, less it", less, toldOf(some))
	holds(t, what, r, nil)
}

func TestNewIsOfNone(t *testing.T) {
	r := rel.New()
	if r == nil {
		t.Fatal("P10.1: New answers no set")
	}
	ofNone(t, "P10.1: New", r)
	want := told{}
	puts(t, r, want, fact(1, 2))
	holds(t, "P10.1: one put", r, want)
	cuts(t, r, want, fact(1, 2))
	ofNone(t, "P10.1: one put, and cut", r)
}

func TestOfNoSet(t *testing.T) {
	var none *rel.Rel
	ofNone(t, "P10.1: of no set", none)
	for _, f := range append(manyFacts(), edgeFacts()...) {
		for range 2 {
			if none.Put(f) {
				t.Errorf("P10.1: Put of %v, of no set: true", f)
			}
		}
	}
	ofNone(t, "P10.1: of no set", none)
}

func TestASetThatDidNotComeOfNew(t *testing.T) {
	zero := new(rel.Rel)
	ofNone(t, "R1: a zero value", zero)
	want := told{}
	puts(t, zero, want, fact(1, 2))
	puts(t, zero, want, fact(1, 1))
	holds(t, "R1: a zero value", zero, want)
}

func TestOf(t *testing.T) {
	many, edge := manyFacts(), edgeFacts()
	back := slices.Clone(many)
	slices.Reverse(back)
	for _, l := range []facts{
		nil,
		{},
		{fact(1, 2)},
		{{}},
		{{}, {Args: []uint32{}}, {}},
		{fact(1, 2), fact(1, 1)},
		{fact(1, 2), fact(1, 2), fact(1, 2)},
		{fact(1, 2), fact(1, 1), fact(1, 2), fact(1, 3), fact(1, 1)},
		{fact(1, 1, 1), fact(1, 2), fact(0, 9, 9), fact(2)},
		many, back, edge,
		slices.Concat(many, back, edge, many, edge),
	} {
		r := rel.Of(l)
		if r == nil {
			t.Fatalf("P10.1: Of %v answers no set", short(l))
		}
		want := toldOf(l)
		holds(t, "P10.1: Of", r, want)
		has(t, "P10.1: Of", r, slices.Concat(many, edge, facts{fact(1, 1), fact(1, 2), fact(1, 3), fact(1), {}}), want)
	}
}

// Facts that are nearly alike are told apart, by each of their parts.
func TestFactsThatAreNearlyAlike(t *testing.T) {
	all := append(manyFacts(), edgeFacts()...)
	r, want := rel.New(), told{}
	for _, f := range all {
		has(t, "P10.1: ahead of its Put", r, facts{f}, want)
		puts(t, r, want, f)
		puts(t, r, want, f)
		has(t, "P10.1: behind its Put", r, all, want)
	}
	holds(t, "P10.1", r, want)
	for _, f := range all {
		cuts(t, r, want, f)
		cuts(t, r, want, f)
		has(t, "P10.1: behind its Cut", r, all, want)
	}
	holds(t, "P10.1: all cut", r, nil)
}

// Of sets of each size: one more at each place, and one less of each place.
func TestPutAndCutAtEachPlace(t *testing.T) {
	for n := range 20 {
		var l facts
		for i := range n {
			l = append(l, fact(5, uint32(2*i+1)))
		}
		for i := range 2*n + 1 {
			f := fact(5, uint32(i))
			r, want := rel.Of(l), toldOf(l)
			puts(t, r, want, f)
			holds(t, "P10.1: one more", r, want)
			r, want = rel.Of(l), toldOf(l)
			cuts(t, r, want, f)
			holds(t, "P10.1: one less", r, want)
			puts(t, r, want, f)
			holds(t, "P10.1: and again", r, want)
		}
	}
}

// Nil and empty Args are the same.
func TestNoArgs(t *testing.T) {
	empty := api.Fact{Pred: 1, Args: []uint32{}}
	r, want := rel.New(), told{}
	puts(t, r, want, empty)
	puts(t, r, want, fact(1))
	holds(t, "R3: nil and empty Args", r, want)
	lists(t, "R3: Find with nil Args", r.Find(api.Atom{Pred: 1}), facts{empty})
	lists(t, "R3: Find with empty Args", r.Find(api.Atom{Pred: 1, Args: []api.Term{}}), facts{empty})
	holds(t, "R3: Less", r.Less(rel.Of(facts{fact(1)})), nil)
	cuts(t, r, want, fact(1))
	holds(t, "R3: nil and empty Args", r, nil)
}

// permutations tells all orders of the numbers below n.
func permutations(n int) (all [][]int) {
	if n == 0 {
		return [][]int{nil}
	}
	for _, l := range permutations(n - 1) {
		for at := range n {
			all = append(all, slices.Insert(slices.Clone(l), at, n-1))
		}
	}
	return all
}

func TestTheOrderOfPutsSaysNothing(t *testing.T) {
	l := facts{fact(0, 9), fact(1), fact(1, 0), fact(1, math.MaxUint32), fact(1, 0, 0), fact(2)}
	for _, order := range permutations(len(l)) {
		r, want := rel.New(), told{}
		var inOrder facts
		for i, at := range order {
			puts(t, r, want, l[at])
			puts(t, r, want, l[order[i/2]])
			inOrder = append(inOrder, l[at])
		}
		lists(t, "P10.3: in whatever order", r.List(), l)
		lists(t, "P10.3: Of in whatever order", rel.Of(inOrder).List(), l)
		if n := r.Less(rel.Of(l)).Len() + rel.Of(l).Less(r).Len(); n != 0 {
			t.Fatalf("P10.3: two sets of the same differ: %d", n)
		}
	}
}

func TestFindOfAllSmallOnes(t *testing.T) {
	all := manyFacts()
	r, want := rel.Of(all), toldOf(all)
	for _, a := range manyAtoms() {
		finds(t, r, want, a)
	}
	var some facts
	for i, f := range all {
		if i%3 != 1 {
			some = append(some, f)
		}
	}
	r, want = rel.Of(some), toldOf(some)
	for _, a := range manyAtoms() {
		finds(t, r, want, a)
	}
	holds(t, "P10.2: Find changes nothing", r, want)
}

// Symbols stand ahead of variables, and behind them, at each place; those of the facts stand below, at and above them.
func TestFindWithSymbolsAtEachPlace(t *testing.T) {
	var all facts
	for _, l := range over([]uint32{4, 5, 6}, 4) {
		all = append(all, fact(9, l...), fact(8, l...), fact(10, l...))
	}
	r, want := rel.Of(all), toldOf(all)
	for _, l := range over([]api.Term{s(5), x(2), x(3)}, 4) {
		a := atom(9, l...)
		finds(t, r, want, a)
		for i := range l {
			for _, n := range []uint32{0, 3, 4, 6, 7, math.MaxUint32} {
				b := atom(9, slices.Clone(l)...)
				b.Args[i] = s(n)
				finds(t, r, want, b)
			}
		}
	}
}

func TestFindAtTheEdgesOfNumbers(t *testing.T) {
	all := edgeFacts()
	r, want := rel.Of(all), toldOf(all)
	for _, f := range all {
		a := atom(f.Pred)
		for _, n := range f.Args {
			a.Args = append(a.Args, s(n))
		}
		finds(t, r, want, a)
		if !alike(r.Find(a), facts{f}) {
			t.Errorf("P10.2: Find of %v, which is there: %v", a, r.Find(a))
		}
		unlike := atom(f.Pred)
		for i := range f.Args {
			unlike.Args = append(unlike.Args, x(uint32(len(f.Args)-i)))
			for _, n := range append(edges, 15, 16) {
				b := atom(a.Pred, slices.Clone(a.Args)...)
				b.Args[i] = x(n)
				finds(t, r, want, b)
				b.Args[i] = s(n)
				finds(t, r, want, b)
				b.Args[i], b.Args[0] = x(n), x(n)
				finds(t, r, want, b)
			}
		}
		finds(t, r, want, unlike)
		finds(t, r, want, atom(f.Pred, slices.Repeat([]api.Term{x(3)}, len(f.Args))...))
	}
}

// An atom that may not be matches too, as it is told.
func TestFindOfAtomsThatMayNotBe(t *testing.T) {
	const n = 100000
	f, a := fact(1), atom(1)
	for i := range uint32(n) {
		f.Args = append(f.Args, i)
		a.Args = append(a.Args, x(n-i))
	}
	r := rel.Of(facts{f, fact(1), fact(1, f.Args[1:]...)})
	lists(t, "P10.2: Find of a long atom", r.Find(a), facts{f})
	a.Args[0] = s(0)
	lists(t, "P10.2: Find of a long atom", r.Find(a), facts{f})
	a.Args[0] = s(1)
	lists(t, "P10.2: Find of a long atom", r.Find(a), nil)
	lists(t, "P10.2: Find of a long atom", r.Find(atom(1, a.Args[1:]...)), facts{fact(1, f.Args[1:]...)})
	a.Args[0] = x(1)
	lists(t, "P10.2: Find of a long atom with one variable twice", r.Find(a), nil)
	if !r.Has(f) || !r.Cut(f) || r.Cut(f) || !r.Put(f) || r.Put(f) {
		t.Error("P10.1: a long fact")
	}
}

// subsets are all of few facts.
func subsets(l facts) (all []facts) {
	for which := range 1 << len(l) {
		var some facts
		for i, f := range l {
			if which>>i&1 == 1 {
				some = append(some, f)
			}
		}
		all = append(all, some)
	}
	return all
}

func TestLessOfEveryTwo(t *testing.T) {
	all := subsets(facts{fact(0), fact(1), fact(1, 0), fact(1, 1), fact(1, 0, 0), fact(2, math.MaxUint32)})
	for _, l := range all {
		for _, m := range all {
			r, q := rel.Of(l), rel.Of(m)
			less := r.Less(q)
			lists(t, "P10.2: Less", less.List(), toldOf(l).less(toldOf(m)).list())
			for _, f := range l {
				if less.Has(f) == q.Has(f) {
					t.Errorf("P10.3: %v is in both, or in none, of Less of %v and %v, and the other one", f, l, m)
				}
			}
			lists(t, "P10.2: Less changes nothing", r.List(), toldOf(l).list())
			lists(t, "P10.2: Less changes nothing", q.List(), toldOf(m).list())
		}
	}
}

func TestLessOfItselfAndOfNone(t *testing.T) {
	for _, l := range []facts{nil, {fact(1, 2)}, manyFacts(), edgeFacts()} {
		r, want := rel.Of(l), toldOf(l)
		holds(t, "P10.2: Less of itself", r.Less(r), nil)
		holds(t, "P10.2: Less of New", r.Less(rel.New()), want)
		holds(t, "P10.2: Less of no set", r.Less(nil), want)
		holds(t, "P10.2: New less it", rel.New().Less(r), nil)
		holds(t, "P10.2: Less changes nothing", r, want)
		if less := r.Less(nil); less == r {
			t.Error("P10.2: Less answers no new set")
		}
	}
}

// What is done to one set says nothing of another one.
func TestSetsDoNotHangTogether(t *testing.T) {
	l := facts{fact(1, 1), fact(1, 2), fact(1, 3), fact(2)}
	r, s := rel.Of(l), rel.Of(l)
	one, two, three := r.Less(nil), r.Less(rel.New()), rel.Of(r.List())
	sets := []*rel.Rel{r, s, one, two, three, r.Less(rel.Of(facts{fact(9)})), rel.New(), rel.New()}
	var want []told
	for i, set := range sets {
		want = append(want, toldOf(l))
		if i >= 6 {
			want[i] = told{}
		}
		holds(t, "P10.3: ahead of all", set, want[i])
	}
	for i, set := range sets {
		puts(t, set, want[i], fact(1, 1, uint32(i)))
		cuts(t, set, want[i], l[i%4])
		puts(t, set, want[i], fact(0, uint32(i)))
		puts(t, set, want[i], fact(1, 2, 2, uint32(i)))
		for k, other := range sets {
			holds(t, "P10.3: another set is changed", other, want[k])
		}
	}
}

func TestWhatIsHandedInIsNotKept(t *testing.T) {
	wholeArgs, want := []uint32{5, 4, 77, 88}, told{}
	r := rel.New()
	puts(t, r, want, fact(1, wholeArgs[:2]...))
	puts(t, r, want, fact(1, wholeArgs[1:2]...))
	puts(t, r, want, fact(1, wholeArgs[:0]...))
	clear(wholeArgs)
	holds(t, "R3: Args that were put are changed", r, want)
	for range 3 {
		_ = append(wholeArgs[:1], 9, 9)
		holds(t, "R3: Args that were put are changed", r, want)
	}
	args := [][]uint32{{3, 1, 9}, {2, 1, 9}, {3, 1, 9}, {0}}
	l := facts{fact(1, args[0][:2]...), fact(1, args[1][:2]...), fact(1, args[2][:2]...), fact(0, args[3]...)}
	of, ofWant := rel.Of(l[:3]), toldOf(l[:3])
	clear(l[:3])
	for _, a := range args {
		clear(a)
	}
	holds(t, "R3: the list of Of is changed", of, ofWant)
	puts(t, of, ofWant, fact(7))
	if l[0].Pred != 0 || len(l[0].Args) != 0 || l[3].Pred != 0 || len(l[3].Args) != 1 {
		t.Errorf("R3: the list that was handed in is changed later: %v", l)
	}
}

func TestWhatIsHandedInIsNotChanged(t *testing.T) {
	wholeArgs := []uint32{5, 4, 77, 88}
	wholeTerms := []api.Term{x(0), s(4), s(77), s(88)}
	l := facts{fact(2, 1), fact(1, 2), fact(1, wholeArgs[:2]...), fact(1, 2), fact(0), fact(0, 9)}
	kept := fmt.Sprint(l, wholeArgs, wholeTerms)
	r := rel.Of(l[:5])
	holds(t, "P10.1: Of", r, toldOf(l[:5]))
	for range 3 {
		lists(t, "R5: Find", r.Find(atom(1, wholeTerms[:2]...)), facts{fact(1, 5, 4)})
		lists(t, "R5: Find", r.Find(atom(1, wholeTerms[:1]...)), facts{fact(1, 2)})
		for _, f := range l[:5] {
			if r.Put(f) || !r.Has(f) || !r.Cut(f) || !r.Put(f) {
				t.Errorf("R5: %v", f)
			}
		}
		holds(t, "R5: all are there again", r, toldOf(l[:5]))
	}
	if got := fmt.Sprint(l, wholeArgs, wholeTerms); got != kept {
		t.Errorf("R3: what was handed in is changed: %s, not %s", got, kept)
	}
}

// spoil writes to all that a list has, and to the room behind its ends.
func spoil(l facts) {
	for i := range l {
		a := l[i].Args
		a = a[:cap(a)]
		for k := range a {
			a[k] = 999
		}
	}
	clear(l[:cap(l)])
}

func TestWhatIsAnsweredIsNewMemory(t *testing.T) {
	all := append(manyFacts(), edgeFacts()...)
	r, want := rel.Of(all), toldOf(all)
	one, two := r.List(), r.List()
	less := r.Less(rel.New())
	for _, a := range []api.Atom{atom(7), atom(7, s(1)), atom(7, x(0)), atom(7, x(0), x(1)), atom(7, s(1), x(0), x(1)), atom(3, x(1), s(5))} {
		found, again := r.Find(a), r.Find(a)
		spoil(found)
		lists(t, "R3: two answers of Find hang together", again, want.find(a))
		holds(t, "R3: what Find told was written to", r, want)
	}
	spoil(one)
	lists(t, "R3: two answers of List hang together", two, want.list())
	holds(t, "R3: what List told was written to", r, want)
	spoil(less.List())
	holds(t, "R3: what List of Less told was written to", less, want)
	holds(t, "R3: what List of Less told was written to", r, want)
	_ = append(two[:1], fact(9), fact(9), fact(9))
	holds(t, "R3: what List told was put to", r, want)
	for _, f := range all {
		r.Cut(f)
	}
	spoil(two)
	holds(t, "P10.3: Less of a set that was emptied", less, want)
}

// No two of an answer's lists share memory, the room behind their ends neither.
func TestListsOfOneAnswer(t *testing.T) {
	all := append(manyFacts(), edgeFacts()...)
	for what, l := range map[string]facts{
		"List": rel.Of(all).List(), "Find": rel.Of(all).Find(atom(7, x(0), x(1), x(2))), "Less": rel.Of(all).Less(nil).List(),
	} {
		kept := toldOf(l).list()
		for i := range l {
			a := l[i].Args
			behind := a[len(a):cap(a)]
			for k := range behind {
				behind[k] = 999
			}
		}
		lists(t, "R3: the room behind Args, of "+what, l, kept)
		for i := range l {
			a := l[i].Args
			for k := range a {
				a[k]++
			}
			for _, n := range l[i+1:] {
				if !toldOf(kept).has(n) {
					t.Fatalf("R3: two lists of one %s hang together: %v", what, n)
				}
			}
		}
	}
}

// What is refused, or asked, turns nothing.
func TestWhatIsAskedTurnsNothing(t *testing.T) {
	l := facts{fact(1, 1), fact(1, 3), fact(2, 2, 2)}
	r, want := rel.Of(l), toldOf(l)
	for range 3 {
		for _, f := range l {
			puts(t, r, want, f)
		}
		cuts(t, r, want, fact(1, 2))
		cuts(t, r, want, fact(2, 2))
		cuts(t, r, want, fact(9))
		has(t, "R5", r, facts{fact(1, 2), fact(1, 3), fact(2, 2)}, want)
		finds(t, r, want, atom(1, x(0)))
		r.Less(rel.Of(l[:1]))
		r.Less(nil)
		holds(t, "R5: what was asked", r, want)
	}
}

func TestLargeSets(t *testing.T) {
	const n = 20000
	r := rand.New(rand.NewSource(10))
	var l facts
	for i := range uint32(n) {
		l = append(l, fact(i%3, i/300, i%300))
	}
	sorted := toldOf(l).list()
	for range 3 {
		r.Shuffle(len(l), func(i, k int) { l[i], l[k] = l[k], l[i] })
		one, of := rel.New(), rel.Of(l)
		for _, f := range l {
			if !one.Put(f) {
				t.Fatalf("P10.1: Put of %v: false", f)
			}
		}
		lists(t, "P10.3: a large set", one.List(), sorted)
		lists(t, "P10.3: Of a large list", of.List(), sorted)
		lists(t, "P10.2: Find in a large set", one.Find(atom(1, s(7), x(0))), toldOf(l).find(atom(1, s(7), x(0))))
		for _, f := range l[:n/2] {
			if !one.Cut(f) || one.Has(f) {
				t.Fatalf("P10.1: Cut of %v", f)
			}
		}
		lists(t, "P10.2: Less of a large set", of.Less(one).List(), toldOf(l[:n/2]).list())
		lists(t, "P10.2: what is left of a large set", one.List(), toldOf(l[n/2:]).list())
	}
	again := rel.Of(slices.Repeat(l[:10], 50000))
	lists(t, "P10.3: few facts, often", again.List(), toldOf(l[:10]).list())
}

// asTold does to two sets what bytes say, and holds them against the document.
func asTold(t *testing.T, b []byte) {
	t.Helper()
	take := func() uint32 {
		if len(b) == 0 {
			return 0
		}
		n := b[0]
		b = b[1:]
		return uint32(n)
	}
	some := func() api.Atom {
		a := atom(take() % 2)
		for range take() % 4 {
			n := take()
			a.Args = append(a.Args, api.Term{Var: n%8 > 4, N: n % 3 * (1 + n/128*0x7fffffff)})
		}
		return a
	}
	ground := func() api.Fact {
		a := some()
		f := fact(a.Pred)
		for _, term := range a.Args {
			f.Args = append(f.Args, term.N)
		}
		return f
	}
	sets, want := []*rel.Rel{rel.New(), rel.New()}, []told{{}, {}}
	for len(b) > 0 {
		what := take()
		one, other := what&1, 1-what&1
		switch what >> 1 % 8 {
		case 0, 1, 2:
			puts(t, sets[one], want[one], ground())
		case 3:
			cuts(t, sets[one], want[one], ground())
		case 4:
			has(t, "P10.1", sets[one], facts{ground()}, want[one])
		case 5:
			finds(t, sets[one], want[one], some())
		case 6:
			lists(t, "P10.2: Less", sets[one].Less(sets[other]).List(), want[one].less(want[other]).list())
		case 7:
			sets[one], want[one] = sets[one].Less(sets[other]), want[one].less(want[other])
		}
	}
	for i := range sets {
		holds(t, "P10.1", sets[i], want[i])
		lists(t, "P10.3: Of what List tells", rel.Of(sets[i].List()).List(), want[i].list())
	}
}

func TestManyByChance(t *testing.T) {
	r := rand.New(rand.NewSource(101))
	for range 3000 {
		b := make([]byte, r.Intn(800))
		r.Read(b)
		asTold(t, b)
	}
}

func FuzzAsTold(f *testing.F) {
	f.Add([]byte{})
	f.Add([]byte{0, 1, 1, 2, 0, 1, 1, 1, 0, 1, 1, 2, 10, 1, 1, 5, 6, 1, 1, 1, 12})
	f.Add([]byte(strings.Repeat("\x00\x01\x02\x03\x81\x01\x01\x02\x01\x82\x0a\x01\x02\x05\x06\x0e\x0d", 20)))
	f.Fuzz(func(t *testing.T, b []byte) { asTold(t, b) })
}
