package join

import (
	"iter"

	"bailey/api"
	"bailey/rel"
)

// body is a clause's. What its literals may become is said later, since it is not the same each time that they are gone through.
type body struct {
	held []*literal // those that are not Not, which hold all variables
	nots []part
	no   *rel.Rel
}

func bodyOf(c api.Clause, no *rel.Rel) *body {
	b := &body{no: no}
	for _, l := range c.Body {
		if p := partOf(l.A); l.Not {
			b.nots = append(b.nots, p)
		} else {
			b.held = append(b.held, &literal{part: p})
		}
	}
	return b
}

// state is how far a choice has come.
type state struct {
	left  set // literals that are still to become facts
	open  set // those that are Not, of which a variable is not known
	known set // variables
	by    choice
}

// start: nothing is chosen.
func (b *body) start() state {
	return state{left: 1<<len(b.held) - 1, open: 1<<len(b.nots) - 1}
}

// settled: a state, with the Nots of which all variables have come to be known; and does it fit, by these?
func (b *body) settled(s state) (next state, fits bool) {
	for i, p := range b.nots {
		if !s.open.has(i) || !s.known.hasAll(p.vars) {
			continue
		}
		if b.no.Has(s.by.becomes(p)) {
			return state{}, false
		}
		s.open &^= 1 << i
	}
	return s, true
}

// steps: the states behind one, by each fact that a literal may become there.
func (b *body) steps(s state, i int) iter.Seq[state] {
	return func(yield func(state) bool) {
		l := b.held[i]
		for _, row := range l.rows(s.known, s.by) {
			next, fits := b.settled(state{s.left &^ (1 << i), s.open, s.known | l.vars, s.by.with(row, l.vars)})
			if fits && !yield(next) {
				return
			}
		}
	}
}

// next: the literal that may become the fewest facts where a choice has come, so that few choices go on from there.
func (b *body) next(s state) (i int) {
	near, least := b.near(s), -1
	for k, l := range b.held {
		if !near.has(k) {
			continue
		}
		if n := len(l.rows(s.known, s.by)); least < 0 || n < least {
			i, least = k, n
		}
	}
	return i
}

// near: the literals that are left and of which something is known; if there is none, all that are left. (Of another one all facts would be read, and each of them would go with each choice.)
func (b *body) near(s state) (near set) {
	for i, l := range b.held {
		if s.left.has(i) && (l.vars == 0 || l.vars&s.known != 0) {
			near |= 1 << i
		}
	}
	if near == 0 {
		return s.left
	}
	return near
}

// place is where a choice has come, as far as what is left asks for it.
type place struct {
	left set
	by   choice
}

// place: that of a state, where some variables are asked for beside those of what is left.
func (b *body) place(s state, asked set) place {
	for i, l := range b.held {
		if s.left.has(i) {
			asked |= l.vars
		}
	}
	for i, p := range b.nots {
		if s.open.has(i) {
			asked |= p.vars
		}
	}
	return place{s.left, s.by.only(asked)}
}

// endings answers a function that says whether a choice can come to its end from a state. There are far more choices than places: so it remembers what it found at each of these.
func (b *body) endings() func(s state) bool {
	ends := map[place]bool{}
	var end func(s state) bool
	end = func(s state) bool {
		if s.left == 0 {
			return true
		}
		at := b.place(s, 0)
		if is, asked := ends[at]; asked {
			return is
		}
		is := false
		for next := range b.steps(s, b.next(s)) {
			if is = end(next); is {
				break
			}
		}
		ends[at] = is
		return is
	}
	return end
}

// gather finds what is chosen for the head's variables by all choices that go on from some states and fit. None goes on that does not come to its end, nor beyond those variables: so each step leads to a head.
func (b *body) gather(from iter.Seq[state], head set, found heads) {
	ends, been := b.endings(), map[place]bool{}
	var find func(s state)
	find = func(s state) {
		if s.known.hasAll(head) {
			if h := s.by.only(head); !found[h] && ends(s) {
				found[h] = true
			}
			return
		}
		at := b.place(s, head)
		if been[at] || !ends(s) {
			return
		}
		been[at] = true
		for next := range b.steps(s, b.next(s)) {
			find(next)
		}
	}
	for s := range from {
		find(s)
	}
}
