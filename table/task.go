package table

import (
	"slices"

	"bailey/api"
	"bailey/atoms"
	"bailey/join"
	"bailey/parts"
	"bailey/rel"
)

// asking is the level of what asks. All that can be asked by what is known is asked ahead of any answer: so no answer comes ahead of its question, by which alone it is heard, and no head ahead of what is asked about its Nots.
const asking = 0

// literal is one about which questions are asked, by some of its variables.
type literal struct {
	atom  api.Atom
	vars  []uint32
	asked map[form]bool
}

// task is a clause that is to be gone through, and again by what comes afresh of its literals. Its heads answer a question; or, of one that asks, they are questions about a literal.
type task struct {
	level  int
	clause api.Clause
	about  *literal
	hears  []*literal // of its body
	due    bool       // is it to be done?
	begun  bool
	fresh  []api.Fact // that it has heard of since it was done
}

// tasks: what is to be done for a clause: it is asked about each literal of which not all is given, and then its heads are told. What is Not comes last, when all of its variables are known.
func (s *search) tasks(c api.Clause) (l []*task) {
	var hears []*literal
	held := s.held(c)
	for i, b := range held {
		if !s.isGiven(b.A) {
			t := asks(b.A, held[:i], hears)
			l, hears = append(l, t), append(hears, t.about)
		}
	}
	for _, b := range c.Body {
		if b.Not && !s.isGiven(b.A) {
			l = append(l, asks(b.A, held, hears))
		}
	}
	return append(l, &task{level: asking + 1 + s.levels[c.Head.Pred], clause: c, hears: hears})
}

// asks is the task to ask about an atom behind some literals. Questions have the symbols that come of these by what is known: of those variables alone that the atom shares with one of them, so that there are no more questions than facts.
func asks(a api.Atom, ahead []api.Lit, hears []*literal) *task {
	about := &literal{atom: a, vars: shared(a, ahead), asked: map[form]bool{}}
	return &task{level: asking, clause: api.Clause{Head: only(a, about.vars), Body: slices.Clone(ahead)}, about: about, hears: slices.Clone(hears)}
}

// held: the literals that are not Not, in the order in which they are asked about: first those of which something is known, and of these first what is given.
func (s *search) held(c api.Clause) (order []api.Lit) {
	var left []api.Lit
	for _, b := range c.Body {
		if !b.Not {
			left = append(left, b)
		}
	}
	for len(left) > 0 {
		best := 0
		for i := range left {
			if s.rank(left[i].A, order) > s.rank(left[best].A, order) {
				best = i
			}
		}
		order = append(order, left[best])
		left = slices.Delete(left, best, best+1)
	}
	return order
}

// rank: how well can an atom be asked about behind some literals?
func (s *search) rank(a api.Atom, ahead []api.Lit) (n int) {
	if isSymbol := func(t api.Term) bool { return !t.Var }; len(a.Args) == 0 || slices.ContainsFunc(a.Args, isSymbol) || len(shared(a, ahead)) > 0 {
		n += 2
	}
	if s.isGiven(a) {
		n++
	}
	return n
}

// hear: more is known; does it bear on a task? One that was not begun yet will find it.
func (t *task) hear(l []api.Fact) bool {
	if !t.begun {
		return false
	}
	for _, f := range l {
		if slices.ContainsFunc(t.hears, func(b *literal) bool { return b.wants(f) }) {
			t.fresh = append(t.fresh, f)
		}
	}
	return len(t.fresh) > 0
}

// wants: does a fact answer a question about a literal? Those that come ahead of their question are found by what brings that.
func (b *literal) wants(f api.Fact) bool {
	return atoms.Match(b.atom, f) && b.asked[formOf(by(b.atom, b.vars, f))]
}

// do goes through a task's clause.
func (s *search) do(t *task) api.Errno {
	every := func(c api.Clause) []api.Fact { return join.Heads(c, s.known, s.known) }
	heads := every
	if t.begun {
		fresh := rel.Of(t.fresh)
		heads = func(c api.Clause) []api.Fact { return join.News(c, s.known, fresh, s.known) }
	}
	t.due, t.begun, t.fresh = false, true, nil
	if t.level == asking {
		for _, f := range heads(t.clause) {
			question := by(t.about.atom, t.about.vars, f)
			t.about.asked[formOf(question)] = true
			s.need(question)
		}
		return api.OK
	}
	found := rel.New()
	for l := range parts.Of(t.clause, s.known.Len(), heads, every) {
		found = with(found, slices.DeleteFunc(l, s.known.Has))
		if s.known.Len()+found.Len() > s.most {
			return api.ErrMany
		}
	}
	s.learn(found.List())
	return api.OK
}
