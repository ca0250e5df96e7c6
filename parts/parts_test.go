package parts_test

import (
	"fmt"
	"slices"
	"testing"

	"bailey/api"
	"bailey/join"
	"bailey/parts"
	"bailey/rel"
)

func x(n uint32) api.Term { return api.Term{Var: true, N: n} }

func at(pred uint32, l ...api.Term) api.Atom { return api.Atom{Pred: pred, Args: l} }

func clause(head api.Atom, body ...api.Atom) api.Clause {
	c := api.Clause{Head: head}
	for _, a := range body {
		c.Body = append(c.Body, api.Lit{A: a})
	}
	return c
}

// ones are facts of one predicate, of so many symbols.
func ones(pred uint32, n int) (l []api.Fact) {
	for i := range n {
		l = append(l, api.Fact{Pred: pred, Args: []uint32{uint32(i)}})
	}
	return l
}

// told holds the parts of a clause together against all of its heads, and says how many parts there are.
func told(t *testing.T, what string, c api.Clause, facts *rel.Rel) (n int) {
	t.Helper()
	every := func(c api.Clause) []api.Fact { return join.Heads(c, facts, nil) }
	var all []api.Fact
	for l := range parts.Of(c, facts.Len(), every, every) {
		if n++; len(l) > 1<<18 {
			t.Errorf("%s: %d heads at once", what, len(l))
		}
		all = append(all, l...)
	}
	got, want := rel.Of(all), rel.Of(every(c))
	if got.Len() != want.Len() || got.Less(want).Len() > 0 {
		t.Errorf("%s: %d heads, not %d", what, got.Len(), want.Len())
	}
	return n
}

func TestAllHeadsAreTold(t *testing.T) {
	facts := rel.Of(slices.Concat(ones(2, 90), ones(3, 80), []api.Fact{{Pred: 4, Args: []uint32{1, 2}}, {Pred: 4, Args: []uint32{2, 1}}, {Pred: 4, Args: []uint32{1, 3}}}))
	for _, e := range []struct {
		what string
		c    api.Clause
		n    int
	}{
		{"no body", clause(at(1)), 1},
		{"no heads", clause(at(1, x(0)), at(2, x(0)), at(5, x(0))), 1},
		{"few heads", clause(at(1, x(0), x(1)), at(2, x(0)), at(3, x(1))), 1},
		{"few heads of many choices", clause(at(1, x(0)), at(2, x(0)), at(3, x(1)), at(3, x(2)), at(3, x(3))), 1},
		{"few heads of much that could be", clause(at(1, x(0), x(1), x(2), x(3)), at(4, x(0), x(1)), at(4, x(1), x(2)), at(4, x(2), x(3)), at(2, x(3))), 1},
		{"many heads", clause(at(1, x(0), x(1), x(2)), at(2, x(0)), at(3, x(1)), at(3, x(2))), 90},
		{"many heads, beside what holds nothing", clause(at(1, x(0), x(1), x(2)), at(5, x(4)), at(2, x(0)), at(3, x(1)), at(3, x(2))), 1},
	} {
		if n := told(t, e.what, e.c, facts); n != e.n {
			t.Errorf("%s: %d parts, not %d", e.what, n, e.n)
		}
	}
}

// Only the heads that are asked for are told, if they are few.
func TestWhatIsAskedIsTold(t *testing.T) {
	facts, fresh := rel.Of(ones(2, 900)), rel.Of(ones(2, 3))
	every := func(c api.Clause) []api.Fact { return join.Heads(c, facts, nil) }
	news := func(c api.Clause) []api.Fact { return join.News(c, facts, fresh, nil) }
	c := clause(at(1, x(0)), at(2, x(0)))
	for l := range parts.Of(c, facts.Len(), news, every) {
		if fmt.Sprint(l) != fmt.Sprint(news(c)) {
			t.Errorf("%v", l)
		}
	}
}

// There can be far more heads than could be told: who has enough of them can leave.
func TestWhoHasEnoughLeaves(t *testing.T) {
	facts := rel.Of(ones(2, 1900))
	every := func(c api.Clause) []api.Fact { return join.Heads(c, facts, nil) }
	c := clause(at(1, x(0), x(1), x(2), x(3), x(4), x(5)), at(2, x(0)), at(2, x(1)), at(2, x(2)), at(2, x(3)), at(2, x(4)), at(2, x(5)))
	n := 0
	for l := range parts.Of(c, facts.Len(), every, every) {
		if n += len(l); n > 4000 {
			break
		}
	}
	if n <= 4000 || n > 1<<18+4000 {
		t.Errorf("%d heads", n)
	}
}
