package table

import (
	"slices"

	"bailey/api"
	"bailey/atoms"
	"bailey/rel"
)

// table is a question that is to be answered, and what is done for that. Its answers are what it matches of what is known.
type table struct {
	question api.Atom
	tasks    []*task
}

// search is how far a question has come.
type search struct {
	rules  map[uint32][]api.Clause // those with a body, by their heads' predicates
	levels map[uint32]int
	known  *rel.Rel // all of it is in the model
	most   int
	tables map[form]*table
	order  []*table // the same, as they were made
	made   int      // with those that had to give way
	size   int      // how many clauses they have
	wide   bool     // is each predicate asked as a whole?
	todo   [][]*task
}

// newSearch knows what is given of those predicates on which a question's hangs.
func newSearch(l []api.Clause, facts []api.Fact, pred uint32, levels []api.Level, most int) *search {
	s := &search{rules: map[uint32][]api.Clause{}, levels: map[uint32]int{}, most: most, tables: map[form]*table{}}
	for _, p := range levels {
		s.levels[p.Pred] = p.Level
	}
	var given []api.Fact
	for _, c := range l {
		if len(c.Body) > 0 {
			s.rules[c.Head.Pred] = append(s.rules[c.Head.Pred], c)
		} else if f, is := atoms.Of(c.Head); is { // what hangs on nothing is as good as given
			given = append(given, f)
		}
	}
	on := s.hangsOn(pred)
	isFar := func(f api.Fact) bool { return !on[f.Pred] }
	s.known = rel.Of(slices.DeleteFunc(append(given, facts...), isFar))
	return s
}

// hangsOn: the predicates on which one hangs, and itself.
func (s *search) hangsOn(pred uint32) map[uint32]bool {
	on, left := map[uint32]bool{pred: true}, []uint32{pred}
	for len(left) > 0 {
		rules := s.rules[left[0]]
		left = left[1:]
		for _, c := range rules {
			for _, b := range c.Body {
				if !on[b.A.Pred] {
					on[b.A.Pred], left = true, append(left, b.A.Pred)
				}
			}
		}
	}
	return on
}

// isGiven: is all that an atom can become known from the beginning?
func (s *search) isGiven(a api.Atom) bool { return len(s.rules[a.Pred]) == 0 }

// need: a question is to be answered. It needs no table, if it has one, or if its whole predicate has.
func (s *search) need(question api.Atom) {
	all := whole(question)
	if s.wide {
		question = all
	}
	if s.has(question) || s.has(all) {
		return
	}
	var clauses []api.Clause
	for _, c := range s.rules[question.Pred] {
		if left, can := answering(c, question); can {
			clauses = append(clauses, left)
		}
	}
	if s.size += max(1, len(clauses)); s.size > api.MaxClauses && !s.wide {
		s.widen()
		return
	}
	s.add(question, clauses)
}

// has: has a question a table?
func (s *search) has(question api.Atom) bool { return s.tables[formOf(question)] != nil }

// add adds the table of a question that some clauses can answer.
func (s *search) add(question api.Atom, clauses []api.Clause) {
	t := &table{question: question}
	for _, c := range clauses {
		t.tasks = append(t.tasks, s.tasks(c)...)
	}
	for _, task := range t.tasks {
		s.put(task)
	}
	s.tables[formOf(question)], s.order = t, append(s.order, t)
	s.made++
}

// widen: there are more questions than can be asked one by one, since there can be one for each list of symbols. So all tables give way to those of whole predicates, which together have no more clauses than the program. What is known stays known, and what the tables had asked is asked anew.
func (s *search) widen() {
	narrow := s.order
	s.wide, s.tables, s.order, s.todo = true, map[form]*table{}, nil, nil
	for _, t := range narrow {
		s.need(t.question)
	}
}

// put puts a task behind those that are to be done at its level, if it is not there.
func (s *search) put(t *task) {
	if t.due {
		return
	}
	for len(s.todo) <= t.level {
		s.todo = append(s.todo, nil)
	}
	s.todo[t.level] = append(s.todo[t.level], t)
	t.due = true
}

// run does what is to do, until nothing is. The lowest level comes first: so all is known of what is Not, when it is held against it.
func (s *search) run() (e api.Errno) {
	if s.known.Len() > s.most {
		return api.ErrMany
	}
todo:
	for {
		for level, l := range s.todo {
			if len(l) == 0 {
				continue
			}
			s.todo[level] = l[1:]
			if e = s.do(l[0]); e != api.OK {
				break todo
			}
			continue todo // what came of it may stand below
		}
		break todo
	}
	return e
}

// learn: more is known, and is told to all whom it bears on.
func (s *search) learn(l []api.Fact) {
	s.known = with(s.known, l)
	for _, t := range s.order {
		for _, task := range t.tasks {
			if task.hear(l) {
				s.put(task)
			}
		}
	}
}

// few is how many facts are put into a set one by one. Each of them moves all that are behind it; so more of them are set in order together with these.
const few = 400

// with: a set that has some facts more.
func with(r *rel.Rel, l []api.Fact) *rel.Rel {
	if len(l) > few {
		return rel.Of(append(r.List(), l...))
	}
	for _, f := range l {
		r.Put(f)
	}
	return r
}
