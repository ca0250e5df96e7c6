package table_test

import (
	"fmt"
	"maps"
	"slices"
	"strings"

	"bailey/api"
	"bailey/atoms"
	"bailey/join"
	"bailey/parse"
	"bailey/rel"
	"bailey/safe"
	"bailey/syms"
)

// names has the numbers of the names in this test's texts.
var names = syms.New()

// program is what a text says.
func program(text string) (l []api.Clause) {
	rules, at, e := parse.Parse(names, text)
	if e != api.OK {
		panic("the test itself is wrong: " + text[at:])
	}
	for _, r := range rules {
		c := api.Clause{Head: r.Head.A}
		for _, b := range r.Body {
			c.Body = append(c.Body, api.Lit{Not: b.Not, A: b.S.A})
		}
		l = append(l, c)
	}
	return l
}

// facts are what a text says.
func facts(text string) (l []api.Fact) {
	for _, c := range program(text) {
		f, is := atoms.Of(c.Head)
		if !is || len(c.Body) > 0 {
			panic("the test itself is wrong: " + text)
		}
		l = append(l, f)
	}
	return l
}

// each is a text for each number from 0 on below n: the text with the number, and those above it, in the places of its %d.
func each(n int, form string) string {
	var b strings.Builder
	for i := range n {
		var up []any
		for k := range strings.Count(form, "%d") {
			up = append(up, i+k)
		}
		fmt.Fprintf(&b, form, up...)
	}
	return b.String()
}

// question is what a text says.
func question(text string) api.Atom { return program(text + " :- none.")[0].Head }

// short is what a test says of what it handed in.
func short(v any) string {
	text := fmt.Sprint(v)
	return text[:min(len(text), 400)]
}

// key is a fact as a map's name.
type key struct {
	pred uint32
	n    int
	args [api.MaxArity]uint32
}

func keyOf(f api.Fact) key {
	k := key{pred: f.Pred, n: len(f.Args)}
	copy(k.args[:], f.Args)
	return k
}

// set is one of facts.
type set map[key]bool

func setOf(l []api.Fact) set {
	s := set{}
	for _, f := range l {
		s[keyOf(f)] = true
	}
	return s
}

func (s set) is(other set) bool { return maps.Equal(s, other) }

// ground is a clause by one choice.
type ground struct {
	head      key
	body, not []key
}

// symbols are all that stand in clauses and facts.
func symbols(l []api.Clause, given []api.Fact) []uint32 {
	are := map[uint32]bool{}
	note := func(a api.Atom) {
		for _, t := range a.Args {
			if !t.Var {
				are[t.N] = true
			}
		}
	}
	for _, c := range l {
		note(c.Head)
		for _, b := range c.Body {
			note(b.A)
		}
	}
	for _, f := range given {
		note(atoms.Lift(f))
	}
	return slices.Sorted(maps.Keys(are))
}

// grounds are all clauses by all choices of the symbols that there are.
func grounds(l []api.Clause, given []api.Fact) (all []ground) {
	of := symbols(l, given)
	for _, c := range l {
		vars := map[uint32]bool{}
		for _, b := range c.Body {
			for _, n := range atoms.Vars(b.A) {
				vars[n] = true
			}
		}
		choose(slices.Collect(maps.Keys(vars)), of, map[uint32]uint32{}, func(by map[uint32]uint32) {
			all = append(all, becomes(c, by))
		})
	}
	return all
}

// choose tells all choices for variables.
func choose(vars, of []uint32, by map[uint32]uint32, told func(by map[uint32]uint32)) {
	if len(vars) == 0 {
		told(by)
		return
	}
	for _, n := range of {
		by[vars[0]] = n
		choose(vars[1:], of, by, told)
	}
}

// becomes: what a clause becomes by a choice.
func becomes(c api.Clause, by map[uint32]uint32) (g ground) {
	one := func(a api.Atom) key {
		k := key{pred: a.Pred, n: len(a.Args)}
		for i, t := range a.Args {
			k.args[i] = t.N
			if t.Var {
				k.args[i] = by[t.N]
			}
		}
		return k
	}
	for _, b := range c.Body {
		if b.Not {
			g.not = append(g.not, one(b.A))
		} else {
			g.body = append(g.body, one(b.A))
		}
	}
	g.head = one(c.Head)
	return g
}

// holds: is a body so, where some facts are, and what is Not is held against others?
func (g ground) holds(there, no set) bool {
	return !slices.ContainsFunc(g.body, func(k key) bool { return !there[k] }) && !slices.ContainsFunc(g.not, func(k key) bool { return no[k] })
}

// closed: what comes of facts, if what is Not is held against what never changes.
func closed(all []ground, given, no set) set {
	there := maps.Clone(given)
	for again := true; again; {
		again = false
		for _, g := range all {
			if !there[g.head] && g.holds(there, no) {
				there[g.head], again = true, true
			}
		}
	}
	return there
}

// told is the perfect model without a word of levels: what is sure comes of what can't be, and what could be of what is not sure, by turns, until no more is sure. In a program with levels nothing is left between.
func told(l []api.Clause, given []api.Fact) set {
	all, have := grounds(l, given), setOf(given)
	for sure := (set{}); ; {
		could := closed(all, have, sure)
		more := closed(all, have, could)
		if !more.is(sure) {
			sure = more
			continue
		}
		if !could.is(sure) {
			panic("the test itself is wrong: " + short(l))
		}
		return sure
	}
}

// grown is what told tells, for what has too many choices.
func grown(l []api.Clause, given []api.Fact) set {
	closed := func(no *rel.Rel) *rel.Rel {
		all := rel.Of(given)
		for n := -1; n < all.Len(); {
			n = all.Len()
			for _, c := range l {
				all = rel.Of(append(all.List(), join.Heads(c, all, no)...))
			}
		}
		return all
	}
	for sure := rel.New(); ; {
		more := closed(closed(sure))
		if more.Less(sure).Len() == 0 {
			return setOf(sure.List())
		}
		sure = more
	}
}

// goesRound: does a way from heads to bodies go round through a Not?
func goesRound(l []api.Clause) bool {
	comes := func(from, to uint32) bool {
		been := map[uint32]bool{from: true}
		for n := 0; n < len(been); {
			n = len(been)
			for _, c := range l {
				for _, b := range c.Body {
					been[b.A.Pred] = been[b.A.Pred] || been[c.Head.Pred]
				}
			}
			maps.DeleteFunc(been, func(_ uint32, is bool) bool { return !is })
		}
		return been[to]
	}
	return slices.ContainsFunc(l, func(c api.Clause) bool {
		return slices.ContainsFunc(c.Body, func(b api.Lit) bool { return b.Not && comes(b.A.Pred, c.Head.Pred) })
	})
}

// wrong: the error that there is before anything comes of the facts.
func wrong(l []api.Clause, given []api.Fact, a api.Atom) api.Errno {
	if _, e := safe.Right(l); e != api.OK {
		return e
	}
	if goesRound(l) {
		return api.ErrStrat
	}
	length := map[uint32]int{}
	for _, c := range l {
		length[c.Head.Pred] = len(c.Head.Args)
		for _, b := range c.Body {
			length[b.A.Pred] = len(b.A.Args)
		}
	}
	for _, f := range given {
		if n, is := length[f.Pred]; is && n != len(f.Args) || len(f.Args) > api.MaxArity {
			return api.ErrArity
		}
		length[f.Pred] = len(f.Args)
	}
	if len(a.Args) > 6 || slices.ContainsFunc(a.Args, func(t api.Term) bool { return t.Var && t.N > 15 }) {
		return api.ErrForm
	}
	if n, is := length[a.Pred]; is && n != len(a.Args) {
		return api.ErrArity
	}
	return api.OK
}

// matched: those of a set that a question matches, told of every two places, in their order.
func matched(s set, a api.Atom) (l []api.Fact) {
	for k := range s {
		fits := k.pred == a.Pred && k.n == len(a.Args)
		for i := 0; fits && i < k.n; i++ {
			t := a.Args[i]
			for j, u := range a.Args {
				fits = fits && !(t.Var && t == u && k.args[i] != k.args[j])
			}
			fits = fits && (t.Var || t.N == k.args[i])
		}
		if fits {
			l = append(l, api.Fact{Pred: k.pred, Args: slices.Clone(k.args[:k.n])})
		}
	}
	slices.SortFunc(l, atoms.Compare)
	return l
}

// questions are all about some predicates, of so many Args each, with some terms.
func questions(length map[uint32]int, terms []api.Term) (all []api.Atom) {
	for _, pred := range slices.Sorted(maps.Keys(length)) {
		lists := [][]api.Term{nil}
		for range length[pred] {
			var longer [][]api.Term
			for _, l := range lists {
				for _, t := range terms {
					longer = append(longer, append(slices.Clone(l), t))
				}
			}
			lists = longer
		}
		for _, l := range lists {
			all = append(all, api.Atom{Pred: pred, Args: l})
		}
	}
	return all
}

// lengths: how many Args have the predicates of clauses and facts?
func lengths(l []api.Clause, given []api.Fact) map[uint32]int {
	n := map[uint32]int{}
	for _, c := range l {
		n[c.Head.Pred] = len(c.Head.Args)
		for _, b := range c.Body {
			n[b.A.Pred] = len(b.A.Args)
		}
	}
	for _, f := range given {
		n[f.Pred] = len(f.Args)
	}
	return n
}
