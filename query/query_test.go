package query_test

import (
	"encoding/binary"
	"fmt"
	"math"
	"math/rand"
	"slices"
	"sort"
	"strings"
	"testing"

	"bailey/api"
	"bailey/query"
)

// x is a variable, s a symbol.
func x(n uint32) api.Term { return api.Term{Var: true, N: n} }
func s(n uint32) api.Term { return api.Term{N: n} }

func atom(pred uint32, l ...api.Term) api.Atom { return api.Atom{Pred: pred, Args: l} }
func fact(pred uint32, l ...uint32) api.Fact   { return api.Fact{Pred: pred, Args: l} }

type facts = []api.Fact

// edges are numbers at the edges of what a number can be, rising.
var edges = []uint32{0, 1, 1<<31 - 1, 1 << 31, math.MaxUint32 - 1, math.MaxUint32}

// over are all lists of the things, of so many at most.
func over[T any](things []T, most int) [][]T {
	all := [][]T{nil}
	for from, n := 0, 0; n < most; n++ {
		to := len(all)
		for _, l := range all[from:to] {
			for _, t := range things {
				all = append(all, append(slices.Clone(l), t))
			}
		}
		from = to
	}
	return all
}

// manyFacts are all of few symbols, of two predicates by turns.
func manyFacts() (all facts) {
	for _, l := range over([]uint32{0, 1, math.MaxUint32}, 3) {
		all = append(all, fact(8, l...), fact(7, l...))
	}
	return all
}

// edgeFacts are at the edges of what numbers can be, nearly alike, and long.
func edgeFacts() facts {
	all := facts{fact(3, make([]uint32, 100)...), fact(3, make([]uint32, 101)...), fact(3, append(make([]uint32, 99), 1)...)}
	for _, n := range edges {
		all = append(all, fact(n), fact(3, n, 5), fact(3, 5, n), fact(n, 5, 5, 5), fact(n, math.MaxUint32), fact(3, 1, 2, 3, 4, 5, n), fact(3, 1, 2, 3, 4, 5, 6, n))
	}
	return all
}

// manyAtoms are all of few terms, of which one is no variable that may be.
func manyAtoms() (all []api.Atom) {
	for _, l := range over([]api.Term{s(0), s(1), s(math.MaxUint32), x(0), x(1), x(15), x(16)}, 3) {
		all = append(all, atom(7, l...), atom(8, l...))
	}
	return all
}

// toldName is a fact's, in a form whose order is that of facts.
func toldName(f api.Fact) string {
	b := binary.BigEndian.AppendUint32(nil, f.Pred)
	b = binary.BigEndian.AppendUint64(b, uint64(len(f.Args)))
	for _, n := range f.Args {
		b = binary.BigEndian.AppendUint32(b, n)
	}
	return string(b)
}

// toldMatch is what an atom matches, told of every two places.
func toldMatch(a api.Atom, f api.Fact) bool {
	if a.Pred != f.Pred || len(a.Args) != len(f.Args) {
		return false
	}
	for i, t := range a.Args {
		for k, u := range a.Args {
			if t.Var && t == u && f.Args[i] != f.Args[k] {
				return false
			}
		}
		if !t.Var && t.N != f.Args[i] {
			return false
		}
	}
	return true
}

// toldAsk is what the document says of Ask: by names that are sorted.
func toldAsk(l facts, a api.Atom) (found facts) {
	by := map[string]api.Fact{}
	var names []string
	for _, f := range l {
		name := toldName(f)
		if _, is := by[name]; is || !toldMatch(a, f) {
			continue
		}
		by[name] = fact(f.Pred, slices.Clone(f.Args)...)
		names = append(names, name)
	}
	sort.Strings(names)
	for _, name := range names {
		found = append(found, by[name])
	}
	return found
}

// toldIs is what the document says of Is.
func toldIs(l facts, f api.Fact) bool {
	for _, g := range l {
		if toldName(g) == toldName(f) {
			return true
		}
	}
	return false
}

// alike: are two lists of facts? Nil and empty ones are.
func alike(l, m facts) bool {
	return slices.EqualFunc(l, m, func(f, g api.Fact) bool { return toldName(f) == toldName(g) })
}

// short is what a test says of what it handed in.
func short(v any) string {
	text := fmt.Sprint(v)
	return text[:min(len(text), 400)]
}

// lists holds what a call tells against what the document says.
func lists(t *testing.T, what string, got, want facts) {
	t.Helper()
	if !alike(got, want) {
		t.Errorf("%s: %d, %s, not %d, %s", what, len(got), short(got), len(want), short(want))
	}
}

// asks holds Ask against the document.
func asks(t *testing.T, l facts, a api.Atom) {
	t.Helper()
	lists(t, "P16.1: Ask of "+short(a), query.Ask(l, a), toldAsk(l, a))
}

// iss holds Is against the document.
func iss(t *testing.T, l facts, f api.Fact) {
	t.Helper()
	if got, want := query.Is(l, f), toldIs(l, f); got != want {
		t.Errorf("P16.1: Is of %s, %s: %v", short(l), short(f), got)
	}
}

// ground is the atom that a fact is.
func ground(f api.Fact) api.Atom {
	a := atom(f.Pred)
	for _, n := range f.Args {
		a.Args = append(a.Args, s(n))
	}
	return a
}

// turned is a list from its end on.
func turned(l facts) facts {
	m := slices.Clone(l)
	slices.Reverse(m)
	return m
}

func TestTheDocumentsExamples(t *testing.T) {
	aa, ab := fact(1, 1, 1), fact(1, 1, 2)
	for _, l := range []facts{{aa, ab}, {ab, aa}} {
		lists(t, "P16.1: Ask of p(X, X)", query.Ask(l, atom(1, x(0), x(0))), facts{aa})
		lists(t, "P16.1: Ask of p(X, Y)", query.Ask(l, atom(1, x(0), x(1))), facts{aa, ab})
		for _, f := range l {
			if !query.Is(l, f) {
				t.Errorf("P16.1: Is of %v: false", f)
			}
		}
	}
	for _, f := range []api.Fact{fact(1, 2, 1), fact(1, 2, 2), fact(1, 1), fact(1), fact(2, 1, 1), fact(1, 1, 1, 1), fact(0, 1, 1)} {
		if query.Is(facts{aa, ab}, f) {
			t.Errorf("P16.1: Is of %v: true", f)
		}
	}
}

func TestAllSmallOnes(t *testing.T) {
	all := manyFacts()
	var some facts
	for i, f := range all {
		if i%3 != 1 {
			some = append(some, f)
		}
	}
	for _, l := range []facts{all, turned(all), some, slices.Concat(some, turned(all), some)} {
		for _, a := range manyAtoms() {
			asks(t, l, a)
		}
	}
	for _, l := range []facts{all, turned(some)} {
		for _, f := range slices.Concat(all, edgeFacts()) {
			iss(t, l, f)
		}
	}
}

// Of every list of few facts, in every order, also more than once.
func TestEveryListOfFewFacts(t *testing.T) {
	few := facts{fact(1), fact(1, 0), fact(1, 1), fact(1, 0, 0), fact(1, 0, 1), fact(2, 0)}
	atoms := []api.Atom{atom(1), atom(2), atom(1, s(0)), atom(1, x(0)), atom(2, x(0)), atom(1, x(0), x(0)), atom(1, x(0), x(1)), atom(1, x(1), s(1)), atom(1, s(0), x(0))}
	for _, l := range over(few, 4) {
		for _, a := range atoms {
			asks(t, l, a)
		}
		for _, f := range few {
			iss(t, l, f)
		}
	}
}

// Symbols stand ahead of variables, and behind them, at each place; those of the facts stand below, at and above them.
func TestSymbolsAtEachPlace(t *testing.T) {
	var all facts
	for _, l := range over([]uint32{6, 5, 4}, 4) {
		all = append(all, fact(10, l...), fact(9, l...), fact(8, l...))
	}
	for _, l := range over([]api.Term{s(5), x(2), x(3)}, 4) {
		asks(t, all, atom(9, l...))
		for i := range l {
			for _, n := range []uint32{0, 2, 3, 4, 6, 7, math.MaxUint32} {
				b := atom(9, slices.Clone(l)...)
				b.Args[i] = s(n)
				asks(t, all, b)
			}
		}
	}
}

func TestTheEdgesOfNumbers(t *testing.T) {
	all := slices.Concat(turned(edgeFacts()), edgeFacts())
	for _, f := range edgeFacts() {
		a := ground(f)
		asks(t, all, a)
		lists(t, "P16.1: Ask of "+short(a)+", which is there", query.Ask(all, a), facts{f})
		iss(t, all, f)
		unlike := atom(f.Pred)
		for i := range f.Args {
			unlike.Args = append(unlike.Args, x(uint32(len(f.Args)-i)))
			for _, n := range append(slices.Clone(edges), 15, 16) {
				b := atom(a.Pred, slices.Clone(a.Args)...)
				b.Args[i] = x(n)
				asks(t, all, b)
				b.Args[i] = s(n)
				asks(t, all, b)
				g := fact(f.Pred, slices.Clone(f.Args)...)
				g.Args[i] = n
				iss(t, all, g)
				b.Args[i], b.Args[0] = x(n), x(n)
				asks(t, all, b)
			}
		}
		asks(t, all, unlike)
		asks(t, all, atom(f.Pred, slices.Repeat([]api.Term{x(3)}, len(f.Args))...))
	}
}

// A fact is not there for another one that has some of it: one Arg more, one less, another one, another Pred.
func TestFactsThatAreNearlyAlike(t *testing.T) {
	for n := range 8 {
		f := fact(5)
		for i := range n {
			f.Args = append(f.Args, uint32(10+i))
		}
		near := facts{fact(4, f.Args...), fact(6, f.Args...), fact(5, append(slices.Clone(f.Args), 0)...), fact(5, append(slices.Clone(f.Args), 9)...)}
		for i := range n {
			one, two := slices.Clone(f.Args), slices.Clone(f.Args)
			one[i]++
			two[i]--
			near = append(near, fact(5, one...), fact(5, two...), fact(5, slices.Delete(slices.Clone(f.Args), i, i+1)...))
		}
		lists(t, "P16.1: Ask of those that are nearly alike", query.Ask(near, ground(f)), nil)
		if query.Is(near, f) {
			t.Errorf("P16.1: Is of %v, %v: true", near, f)
		}
		for at := range near {
			l := slices.Insert(slices.Clone(near), at, f)
			lists(t, "P16.1: Ask with it", query.Ask(l, ground(f)), facts{f})
			if !query.Is(l, f) {
				t.Errorf("P16.1: Is of %v, %v: false", l, f)
			}
		}
	}
}

// instead is an atom with a symbol in place of a variable.
func instead(a api.Atom, v, symbol uint32) api.Atom {
	b := atom(a.Pred, slices.Clone(a.Args)...)
	for i, t := range b.Args {
		if t == x(v) {
			b.Args[i] = s(symbol)
		}
	}
	return b
}

// splits holds P16.2 of a variable: what is told with each symbol in its place is some of what is told of the variable, and all of it together.
func splits(t *testing.T, l facts, a api.Atom, v uint32) {
	t.Helper()
	symbols := []uint32{3, math.MaxUint32 - 7} // these stand nowhere
	for _, f := range l {
		symbols = append(symbols, f.Args...)
	}
	slices.Sort(symbols)
	all := query.Ask(l, a)
	var together facts
	for _, n := range slices.Compact(symbols) {
		some := query.Ask(l, instead(a, v, n))
		for _, f := range some {
			if !toldIs(all, f) {
				t.Errorf("P16.2: %v has more with %d in place of %d: %v", a, n, v, f)
			}
		}
		together = append(together, some...)
	}
	if len(together) != len(all) {
		t.Errorf("P16.2: %v: %d, but %d over all symbols in place of %d", a, len(all), len(together), v)
	}
	sort.Slice(together, func(i, k int) bool { return toldName(together[i]) < toldName(together[k]) })
	lists(t, "P16.2: all together", together, all)
}

func TestSymbolsInPlaceOfVariables(t *testing.T) {
	l := slices.Concat(manyFacts(), turned(manyFacts()), edgeFacts())
	for _, a := range manyAtoms() {
		for _, v := range []uint32{0, 1, 15, 16} {
			if slices.Contains(a.Args, x(v)) {
				splits(t, l, a, v)
			}
		}
	}
	splits(t, l, atom(3, x(0), x(1)), 0)
	splits(t, l, atom(3, x(0), x(1)), 1)
	splits(t, l, atom(3, x(0), s(2), x(1), x(2), x(3), x(4)), 4)
}

// A symbol in place of a variable that an atom has not changes nothing; and what no fact is as long as, or of the Pred of, has none.
func TestWhatIsNotThere(t *testing.T) {
	l := manyFacts()
	for _, a := range manyAtoms() {
		if !slices.Contains(a.Args, x(0)) {
			lists(t, "P16.2: a variable that is not there", query.Ask(l, instead(a, 0, 1)), query.Ask(l, a))
		}
	}
	for n := range uint32(5) {
		a := atom(7, slices.Repeat([]api.Term{x(n)}, 4)...)
		lists(t, "P16.1: longer than all facts", query.Ask(l, a), nil)
		a.Args, a.Pred = a.Args[:1], 9
		lists(t, "P16.1: a Pred that is not there", query.Ask(l, a), nil)
	}
}

// R3: nil and empty lists are the same.
func TestEmptyLists(t *testing.T) {
	for _, l := range []facts{nil, {}, make(facts, 0, 4)} {
		for _, a := range manyAtoms() {
			lists(t, "P16.1: Ask of no facts", query.Ask(l, a), nil)
		}
		for _, f := range append(edgeFacts(), api.Fact{}) {
			if query.Is(l, f) {
				t.Errorf("P16.1: Is of no facts, %v: true", f)
			}
		}
	}
	none, empty := api.Fact{Pred: 1}, api.Fact{Pred: 1, Args: []uint32{}}
	for _, l := range []facts{{none}, {empty}, {none, empty}, {empty, none, empty}} {
		for _, a := range []api.Atom{{Pred: 1}, {Pred: 1, Args: []api.Term{}}, {Pred: 1, Args: make([]api.Term, 0, 3)}} {
			lists(t, "R3: nil and empty Args", query.Ask(l, a), facts{none})
		}
		if !query.Is(l, none) || !query.Is(l, empty) || query.Is(l, api.Fact{}) {
			t.Errorf("R3: nil and empty Args, Is of %v", l)
		}
	}
	if l := (facts{{}}); !query.Is(l, api.Fact{}) || len(query.Ask(l, api.Atom{})) != 1 {
		t.Error("P16.1: of zero values")
	}
}

// What may not be handed to others is matched too, as it is told.
func TestVeryLongOnes(t *testing.T) {
	const n = 100000
	f, a := fact(1), atom(1)
	for i := range uint32(n) {
		f.Args = append(f.Args, i)
		a.Args = append(a.Args, x(n-i))
	}
	l := facts{fact(1, f.Args[1:]...), f, fact(1), f}
	lists(t, "P16.1: Ask of a long atom", query.Ask(l, a), facts{f})
	a.Args[0] = s(0)
	lists(t, "P16.1: Ask of a long atom", query.Ask(l, a), facts{f})
	a.Args[0] = s(1)
	lists(t, "P16.1: Ask of a long atom", query.Ask(l, a), nil)
	lists(t, "P16.1: Ask of a long atom", query.Ask(l, atom(1, a.Args[1:]...)), l[:1])
	a.Args[0] = x(1)
	lists(t, "P16.1: Ask of a long atom with one variable twice", query.Ask(l, a), nil)
	other := fact(1, slices.Clone(f.Args)...)
	other.Args[n-1]++
	if !query.Is(l, f) || !query.Is(l, l[0]) || query.Is(l, other) || query.Is(l, fact(1, f.Args[2:]...)) {
		t.Error("P16.1: Is of a long fact")
	}
	lists(t, "P16.1: long ones in order", query.Ask(facts{other, f, other}, atom(1, slices.Repeat([]api.Term{x(0)}, n)...)), nil)
	for i := range a.Args {
		a.Args[i] = x(uint32(i))
	}
	lists(t, "P16.1: long ones in order", query.Ask(facts{other, f, other}, a), facts{f, other})
}

func TestVeryMany(t *testing.T) {
	const n = 200000
	var l facts
	for i := range uint32(n) {
		l = append(l, fact(i%2, i/500, i%500))
	}
	rand.New(rand.NewSource(16)).Shuffle(n, func(i, k int) { l[i], l[k] = l[k], l[i] })
	want := toldAsk(l, atom(1, x(0), x(1)))
	if len(want) != n/2 {
		t.Fatalf("the test itself is wrong: %d", len(want))
	}
	for what, m := range map[string]facts{"in any order": l, "in order": toldAsk(l, atom(1, x(0), x(1))), "turned round": turned(want), "twice": slices.Concat(l, turned(l))} {
		lists(t, "P16.1: very many, "+what, query.Ask(m, atom(1, x(0), x(1))), want)
		asks(t, m, atom(1, x(0), x(0)))
		asks(t, m, atom(1, s(7), x(0)))
		asks(t, m, atom(1, x(0), s(7)))
		iss(t, m, fact(1, 7, 7))
		iss(t, m, fact(1, 7, 8))
		iss(t, m, fact(1, n, n))
	}
	lists(t, "P16.1: one very many times", query.Ask(slices.Repeat(facts{fact(1, 2, 2)}, 1<<20), atom(1, x(3), x(3))), facts{fact(1, 2, 2)})
	if many := make(facts, 1<<20); !query.Is(many, api.Fact{}) || query.Is(many, fact(1)) {
		t.Error("P16.1: Is of one very many times")
	}
}

// roomy has lists with room behind their ends, where something stands.
func roomy(l facts) facts {
	var m facts
	for _, f := range l {
		m = append(m, fact(f.Pred, append(slices.Clone(f.Args), 77, 78)[:len(f.Args)]...))
	}
	return append(m, fact(7, 0, 0, 0), fact(1, 9))[:len(l)]
}

// whole is a text of what is handed in, with what stands behind the ends of its lists.
func whole(l facts, a api.Atom) string {
	var b strings.Builder
	for _, f := range l[:cap(l)] {
		fmt.Fprint(&b, f.Pred, len(f.Args), f.Args[:cap(f.Args)], "\n")
	}
	fmt.Fprint(&b, len(l), a.Pred, len(a.Args), a.Args[:cap(a.Args)])
	return b.String()
}

// R3, R5: what is handed in is not changed, and the same is answered each time.
func TestNothingIsChanged(t *testing.T) {
	l := roomy(slices.Concat(turned(manyFacts()), edgeFacts(), manyFacts()))
	for _, a := range manyAtoms() {
		a.Args = append(slices.Clone(a.Args), s(0), x(3))[:len(a.Args)]
		kept, want := whole(l, a), toldAsk(l, a)
		for range 2 {
			lists(t, "R5: Ask", query.Ask(l, a), want)
			lists(t, "R5: Ask of some", query.Ask(l[5:9], a), toldAsk(l[5:9], a))
		}
		if got := whole(l, a); got != kept {
			t.Fatalf("R3: what was handed in is changed: %s, not %s", short(got), short(kept))
		}
	}
	for _, f := range append(roomy(edgeFacts()), fact(9), fact(3, 5, 6)) {
		kept := whole(append(slices.Clip(l), f), api.Atom{}) + whole(l, api.Atom{})
		for range 2 {
			iss(t, l, f)
		}
		if got := whole(append(slices.Clip(l), f), api.Atom{}) + whole(l, api.Atom{}); got != kept {
			t.Fatalf("R3: what was handed in is changed: %s, not %s", short(got), short(kept))
		}
	}
}

// spoil writes to all that a list has, and to the room behind its ends.
func spoil(l facts) {
	for i := range l {
		a := l[i].Args[:cap(l[i].Args)]
		for k := range a {
			a[k] = 999
		}
	}
	l = l[:cap(l)]
	for i := range l {
		l[i] = fact(998)
	}
}

// R3: what is answered is new memory; nothing of what is handed in is kept.
func TestWhatIsAnsweredIsNewMemory(t *testing.T) {
	for _, a := range []api.Atom{atom(7), atom(8, s(1)), atom(7, x(0)), atom(7, x(0), x(0)), atom(7, s(1), x(0), x(1)), atom(3, x(1), s(5)), atom(1)} {
		l := roomy(slices.Concat(manyFacts(), edgeFacts(), turned(manyFacts())))
		kept, want := whole(l, a), toldAsk(l, a)
		one, two := query.Ask(l, a), query.Ask(l, a)
		spoil(one)
		if got := whole(l, a); got != kept {
			t.Errorf("R3: what is answered is memory of what was handed in: %s, not %s", short(got), short(kept))
		}
		lists(t, "R3: two answers hang together", two, want)
		lists(t, "R3: what was answered ahead is changed", query.Ask(l, a), want)
		spoil(l)
		clear(a.Args)
		lists(t, "R3: what was handed in is kept", two, want)
	}
}

// R3: no two lists of one answer share memory, the room behind their ends neither.
func TestListsOfOneAnswer(t *testing.T) {
	shared := []uint32{5, 6, 7, 8} // what is handed in may share memory
	l := manyFacts()
	for from := range shared {
		for to := from; to <= len(shared); to++ {
			l = append(l, fact(7, shared[from:to]...))
		}
	}
	for n := range 4 {
		a := atom(7)
		for i := range n {
			a.Args = append(a.Args, x(uint32(i)))
		}
		got, want := query.Ask(l, a), toldAsk(l, a)
		for i := range got {
			args := got[i].Args[:cap(got[i].Args)]
			for k := range args {
				args[k] = 999
			}
			got[i].Args = append(got[i].Args, 998)
			lists(t, "R3: two lists of one answer hang together", got[i+1:], want[i+1:])
		}
	}
}

// asTold asks what bytes say of what they say, and holds it against the document.
func asTold(t *testing.T, b []byte) {
	t.Helper()
	take := func() uint32 {
		if len(b) == 0 {
			return 0
		}
		n := b[0]
		b = b[1:]
		return uint32(n)
	}
	some := func() api.Atom {
		a := atom(take() % 2)
		for range take() % 4 {
			n := take()
			a.Args = append(a.Args, api.Term{Var: n%8 > 4, N: n % 3 * (1 + n/128*0x7fffffff)})
		}
		return a
	}
	one := func() api.Fact {
		a := some()
		f := fact(a.Pred)
		for _, term := range a.Args {
			f.Args = append(f.Args, term.N)
		}
		return f
	}
	a, f := some(), one()
	var l facts
	for len(b) > 0 {
		l = append(l, one())
	}
	asks(t, l, a)
	iss(t, l, f)
	for _, term := range a.Args {
		if term.Var {
			splits(t, l, a, term.N)
		}
	}
}

func TestManyByChance(t *testing.T) {
	r := rand.New(rand.NewSource(161))
	for range 10000 {
		b := make([]byte, r.Intn(200))
		r.Read(b)
		asTold(t, b)
	}
}

func FuzzAsTold(f *testing.F) {
	f.Add([]byte{})
	f.Add([]byte{1, 2, 6, 6, 1, 2, 1, 1, 1, 2, 1, 1, 1, 2, 1, 2, 1, 2, 0, 0, 1, 2, 1, 1})
	f.Add([]byte(strings.Repeat("\x00\x01\x06\x01\x02\x01\x81\x01\x03\x05\x06\x0e\x0d", 20)))
	f.Fuzz(func(t *testing.T, b []byte) { asTold(t, b[:min(len(b), 2000)]) })
}
