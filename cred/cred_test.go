package cred_test

import (
	"bytes"
	"crypto/hmac"
	"crypto/sha256"
	"encoding/binary"
	"encoding/hex"
	"fmt"
	"math"
	"math/rand"
	"slices"
	"strings"
	"testing"

	"bailey/api"
	"bailey/cred"
)

// x is a variable, s a symbol.
func x(n uint32) api.Term { return api.Term{Var: true, N: n} }
func s(n uint32) api.Term { return api.Term{N: n} }

func atom(pred uint32, l ...api.Term) api.Atom { return api.Atom{Pred: pred, Args: l} }

func says(who api.Term, a api.Atom) api.Cond {
	return api.Cond{S: api.Say{Said: true, Who: who, A: a}}
}

// give is the credential of the document's example.
func give() api.Cred {
	return api.Cred{Kind: api.CredGive, Issuer: 5, Serial: 1, From: 0, Until: 9, Pred: 7, Args: 1, To: 6, Depth: 0}
}

// rule is a credential of a rule.
func rule(head api.Atom, body ...api.Cond) api.Cred {
	return api.Cred{Kind: api.CredRule, Issuer: 3, Serial: 2, From: 0, Until: 9, Rule: api.Rule{Head: api.Say{A: head}, Body: body}}
}

// simple is one: 7(X1, 4) :- X1 says 8(X1, 5), 6 says 9.
func simple() api.Cred {
	return rule(atom(7, x(1), s(4)), says(x(1), atom(8, x(1), s(5))), says(s(6), atom(9)))
}

var simplesNumbers = []uint64{1, 3, 2, 0, 9, 7, 2, 3, 8, 2, 3, 8, 2, 3, 10, 12, 9, 0}

// largest has all that a rule's credential may have, each number as large as may be.
func largest() api.Cred {
	most := uint32(math.MaxUint32)
	c := rule(atom(most, x(15), x(14), s(most), x(0), x(7)))
	for i := range uint32(8) {
		c.Rule.Body = append(c.Rule.Body, says(x(15-i), atom(most-i, x(2*i), x(2*i+1), s(most), s(0), x(i))))
	}
	c.Issuer, c.Serial, c.From, c.Until = most, math.MaxUint64, 1<<40-1, 1<<40
	return c
}

// good are credentials that may be, of all forms.
func good() []api.Cred {
	l := []api.Cred{give(), simple(), largest(),
		rule(atom(0)), rule(atom(7, s(1))), rule(atom(7, s(1), s(2), s(3), s(4), s(5))),
		rule(atom(7, x(0)), says(s(1), atom(8, x(0)))), rule(atom(7, x(0)), says(x(0), atom(8))),
		rule(atom(7), says(x(3), atom(7)), says(x(3), atom(7))), rule(atom(7, s(0)), says(s(0), atom(0, s(0)))),
		{Kind: api.CredGive, Until: 1},
		{Kind: api.CredGive, Issuer: math.MaxUint32, Serial: math.MaxUint64, From: 1<<40 - 1, Until: 1 << 40, Pred: math.MaxUint32, Args: 5, To: math.MaxUint32, Depth: 3},
	}
	for args := range 6 {
		for depth := range 4 {
			c := give()
			c.Args, c.Depth = args, depth
			l = append(l, c)
		}
	}
	for n := range 9 {
		c := rule(atom(7, s(uint32(n))))
		for i := range n {
			c.Rule.Body = append(c.Rule.Body, says(s(uint32(i)), atom(8, x(uint32(i)))))
		}
		l = append(l, c)
	}
	return l
}

// mayBe: may a credential be, as the document tells it?
func mayBe(c api.Cred) bool {
	if c.Until > 1<<40 || c.From >= c.Until {
		return false
	}
	switch c.Kind {
	case 1:
		return c.Pred == 0 && c.Args == 0 && c.To == 0 && c.Depth == 0 && mayRule(c.Rule)
	case 2:
		return fmt.Sprint(c.Rule) == fmt.Sprint(api.Rule{}) && slices.Contains([]int{0, 1, 2, 3, 4, 5}, c.Args) && slices.Contains([]int{0, 1, 2, 3}, c.Depth)
	}
	return false
}

func mayRule(r api.Rule) bool {
	held := map[uint32]bool{}
	may := mayTerms(r.Head.A.Args) && r.Head.Who == s(0) && !r.Head.Said && len(r.Body) <= 8
	for _, c := range r.Body {
		may = may && !c.Not && c.S.Said && mayTerms(c.S.A.Args) && mayTerms([]api.Term{c.S.Who})
		for _, t := range append([]api.Term{c.S.Who}, c.S.A.Args...) {
			held[t.N] = held[t.N] || t.Var
		}
	}
	for _, t := range r.Head.A.Args {
		may = may && (!t.Var || held[t.N])
	}
	return may
}

func mayTerms(l []api.Term) bool {
	may := len(l) <= 5
	for _, t := range l {
		may = may && (!t.Var || t.N <= 15)
	}
	return may
}

// numbersOf are a credential's, as the document tells them.
func numbersOf(c api.Cred) []uint64 {
	l := []uint64{uint64(c.Kind), uint64(c.Issuer), c.Serial, c.From, c.Until}
	if c.Kind == 2 {
		return append(l, uint64(c.Pred), uint64(c.Args), uint64(c.To), uint64(c.Depth))
	}
	l = append(l, numbersOfAtom(c.Rule.Head.A)...)
	l = append(l, uint64(len(c.Rule.Body)))
	for _, b := range c.Rule.Body {
		l = append(append(l, numberOfTerm(b.S.Who)), numbersOfAtom(b.S.A)...)
	}
	return l
}

func numbersOfAtom(a api.Atom) []uint64 {
	l := []uint64{uint64(a.Pred), uint64(len(a.Args))}
	for _, t := range a.Args {
		l = append(l, numberOfTerm(t))
	}
	return l
}

func numberOfTerm(t api.Term) uint64 {
	if t.Var {
		return uint64(t.N) + uint64(t.N) + 1
	}
	return uint64(t.N) + uint64(t.N)
}

func bytesOf(l ...uint64) []byte {
	var b []byte
	for _, n := range l {
		b = binary.BigEndian.AppendUint64(b, n)
	}
	return b
}

// scan goes over numbers, over what is wrong too, and says so at the end.
type scan struct {
	rest  []uint64
	wrong bool
}

// next is the next number, of those up to a most.
func (c *scan) next(most uint64) uint64 {
	if len(c.rest) == 0 || c.rest[0] > most {
		c.wrong = true
		return 0
	}
	n := c.rest[0]
	c.rest = c.rest[1:]
	return n
}

func (c *scan) short() uint32 { return uint32(c.next(math.MaxUint32)) }

func (c *scan) term() api.Term {
	n := c.next(1<<33 - 1)
	return api.Term{Var: n&1 == 1, N: uint32(n >> 1)}
}

func (c *scan) atom() api.Atom {
	a := atom(c.short())
	for range c.next(5) {
		a.Args = append(a.Args, c.term())
	}
	return a
}

// toldOf is the credential that may be whose bytes these are, as the document tells it, if there is one.
func toldOf(b []byte) (api.Cred, bool) {
	in := &scan{wrong: len(b)%8 != 0}
	for at := 0; at+8 <= len(b); at += 8 {
		in.rest = append(in.rest, binary.BigEndian.Uint64(b[at:]))
	}
	c := api.Cred{Kind: uint8(in.next(2))}
	c.Issuer, c.Serial, c.From, c.Until = in.short(), in.next(math.MaxUint64), in.next(1<<40), in.next(1<<40)
	switch c.Kind {
	case 1:
		c.Rule.Head.A = in.atom()
		for range in.next(8) {
			who := in.term()
			c.Rule.Body = append(c.Rule.Body, says(who, in.atom()))
		}
	case 2:
		c.Pred, c.Args, c.To, c.Depth = in.short(), int(in.next(5)), in.short(), int(in.next(3))
	}
	if in.wrong || len(in.rest) > 0 || !mayBe(c) {
		return api.Cred{}, false
	}
	return c, true
}

// text tells all of a credential; lists of nothing and none have one text.
func text(c api.Cred) string { return fmt.Sprintf("%+v", c) }

func isZero(c api.Cred) bool { return text(c) == text(api.Cred{}) }

// tagOf is the tag as the library makes it.
func tagOf(key []byte, first byte, rest []byte) api.Tag {
	m := hmac.New(sha256.New, key)
	m.Write([]byte{first})
	m.Write(rest)
	return api.Tag(m.Sum(nil))
}

// keys are of all lengths at which something is otherwise with a tag.
func keys() [][]byte {
	return [][]byte{nil, {}, {0}, {1}, []byte("k"), []byte("K"), make([]byte, 63), bytes.Repeat([]byte{0xa5}, 64), bytes.Repeat([]byte{0xa5}, 65), make([]byte, 1000)}
}

// short is bytes as they may be told when something is wrong.
func short(b []byte) string { return fmt.Sprintf("%d bytes %x", len(b), b[:min(len(b), 160)]) }

// holds: is all that is said of a credential what the document tells?
func holds(t *testing.T, what string, c api.Cred) {
	t.Helper()
	may := mayBe(c)
	var want []byte
	var tag api.Tag
	if may {
		want = bytesOf(numbersOf(c)...)
		tag = tagOf([]byte("key"), 1, want)
	}
	if got := cred.May(c); got != may {
		t.Errorf("P19.1: %s: May of %s: %v", what, text(c), got)
	}
	if got := cred.Bytes(c); !bytes.Equal(got, want) {
		t.Errorf("P19.1: %s: Bytes of %s: %s, not %s", what, text(c), short(got), short(want))
	}
	if got := cred.Sign([]byte("key"), c); got != tag {
		t.Errorf("P19.2: %s: Sign of %s: %x, not %x", what, text(c), got, tag)
	}
	if got := cred.Check([]byte("key"), c, tag); got != may {
		t.Errorf("P19.2: %s: Check of %s: %v", what, text(c), got)
	}
	if cred.Check([]byte("key"), c, api.Tag{}) {
		t.Errorf("P19.2: %s: Check of %s, and noughts", what, text(c))
	}
	if may {
		reads(t, what, want)
	}
}

// reads: is what is read the document's?
func reads(t *testing.T, what string, b []byte) {
	t.Helper()
	want, is := toldOf(b)
	got, e := cred.Read(b)
	if is != (e == api.OK) || !is && e != api.ErrBytes || text(got) != text(want) {
		t.Errorf("P19.1: %s: Read of %s: %s, %d, not %s", what, short(b), text(got), e, text(want))
	}
}

func TestTheDocumentsExample(t *testing.T) {
	const want = "000000000000000200000000000000050000000000000001000000000000000000000000000000090000000000000007000000000000000100000000000000060000000000000000"
	b := cred.Bytes(give())
	if hex.EncodeToString(b) != want || len(b) != 72 {
		t.Errorf("P19.1: Bytes: %x", b)
	}
	if c, e := cred.Read(b); e != api.OK || text(c) != text(give()) {
		t.Errorf("P19.1: Read: %s, %d", text(c), e)
	}
	holds(t, "the example", give())
}

func TestBytesOfARule(t *testing.T) {
	b := cred.Bytes(simple())
	if !bytes.Equal(b, bytesOf(simplesNumbers...)) {
		t.Errorf("P19.1: Bytes: %x", b)
	}
	if c, e := cred.Read(b); e != api.OK || text(c) != text(simple()) {
		t.Errorf("P19.1: Read: %s, %d", text(c), e)
	}
	holds(t, "a rule", simple())
	if b := cred.Bytes(rule(atom(0))); !bytes.Equal(b, bytesOf(1, 3, 2, 0, 9, 0, 0, 0)) {
		t.Errorf("P19.1: Bytes of the shortest one: %x", b)
	}
	if b := cred.Bytes(largest()); len(b) != 616 {
		t.Errorf("P19.1: Bytes of the largest one: %d", len(b))
	}
}

// Tags that were made elsewhere.
func TestTagsThatAreKnown(t *testing.T) {
	for _, c := range []struct {
		what string
		got  api.Tag
		want string
	}{
		{"Sign of the example", cred.Sign([]byte("k"), give()), "262614f143b454b23a60207b5af6aa4bc66c655d73e170c5ec4985eb9220c51a"},
		{"Sign of a rule", cred.Sign([]byte("k"), simple()), "2f242fa56b4dc0fce1508866592c5500e3b565c34d82914498fc9c0d3ef652ad"},
		{"Undo of the example", cred.Undo([]byte("k"), 5, 1), "0e033156987813a923f7eba5f35079170728409e71206cedd426f979a967db0b"},
	} {
		if got := hex.EncodeToString(c.got[:]); got != c.want {
			t.Errorf("P19.2: %s: %s", c.what, got)
		}
	}
}

func TestGoodOnesMayBe(t *testing.T) {
	for _, c := range good() {
		if !mayBe(c) || !cred.May(c) {
			t.Errorf("P19.1: May of %s", text(c))
		}
		holds(t, "one that may be", c)
	}
}

func TestEachKind(t *testing.T) {
	for kind := range 256 {
		for _, c := range append(good(), api.Cred{Until: 1}) {
			c.Kind = uint8(kind)
			holds(t, "each kind", c)
			if kind != 1 && kind != 2 && cred.May(c) {
				t.Errorf("P19.1: May of the kind %d", kind)
			}
		}
	}
}

func TestFromAndUntil(t *testing.T) {
	times := []uint64{0, 1, 2, 8, 9, 10, 1<<32 - 1, 1 << 32, 1<<32 + 1, 1<<40 - 2, 1<<40 - 1, 1 << 40, 1<<40 + 1, 1<<40 + 2, 1 << 41, 1<<63 - 1, 1 << 63, 1<<63 + 1, math.MaxUint64 - 1, math.MaxUint64}
	for _, from := range times {
		for _, until := range times {
			for _, c := range []api.Cred{give(), simple()} {
				c.From, c.Until = from, until
				if got := cred.May(c); got != (from < until && until <= 1<<40) {
					t.Errorf("P19.1: May, from %d until %d: %v", from, until, got)
				}
				holds(t, "each time", c)
			}
		}
	}
}

func TestEachNumber(t *testing.T) {
	for bit := range 64 {
		for _, n := range []uint64{1 << bit, 1<<bit - 1, 1<<bit + 1, ^uint64(1 << bit)} {
			for _, c := range []api.Cred{give(), simple()} {
				c.Issuer = uint32(n)
				holds(t, "each issuer", c)
				c.Serial = n
				holds(t, "each serial", c)
			}
			c := give()
			c.Pred, c.To = uint32(n), ^uint32(n)
			holds(t, "each Pred and To", c)
			c = rule(atom(uint32(n), s(^uint32(n))), says(s(uint32(n)), atom(^uint32(n), s(uint32(n)))))
			holds(t, "each symbol", c)
			if !cred.May(c) {
				t.Errorf("P19.1: May of %s", text(c))
			}
		}
	}
}

func TestArgsAndDepth(t *testing.T) {
	ints := []int{math.MinInt64, math.MinInt32, -256, -2, -1, 0, 1, 2, 3, 4, 5, 6, 7, 8, 255, 256, 257, 1 << 32, 1<<32 + 1, math.MaxInt32, math.MaxInt64}
	for _, args := range ints {
		for _, depth := range ints {
			c := give()
			c.Args, c.Depth = args, depth
			if got := cred.May(c); got != (args >= 0 && args <= 5 && depth >= 0 && depth <= 3) {
				t.Errorf("P19.1: May, of %d Args, of the depth %d: %v", args, depth, got)
			}
			holds(t, "Args and Depth", c)
		}
	}
}

// What is not of a credential's kind is zero.
func TestWhatIsOfTheOtherKind(t *testing.T) {
	gives := map[string]func(c *api.Cred){
		"Said":         func(c *api.Cred) { c.Rule.Head.Said = true },
		"Who":          func(c *api.Cred) { c.Rule.Head.Who = s(1) },
		"Who, Var":     func(c *api.Cred) { c.Rule.Head.Who = x(0) },
		"a head":       func(c *api.Cred) { c.Rule.Head.A.Pred = 1 },
		"a large head": func(c *api.Cred) { c.Rule.Head.A.Pred = 1 << 31 },
		"an Arg":       func(c *api.Cred) { c.Rule.Head.A.Args = []api.Term{{}} },
		"a body":       func(c *api.Cred) { c.Rule.Body = []api.Cond{{}} },
		"a Said body":  func(c *api.Cred) { c.Rule.Body = []api.Cond{says(s(0), atom(0))} },
		"a good rule":  func(c *api.Cred) { c.Rule = simple().Rule },
	}
	for what, turn := range gives {
		c := give()
		if turn(&c); cred.May(c) {
			t.Errorf("P19.1: May of a CredGive with %s", what)
		}
		holds(t, what, c)
	}
	rules := map[string]func(c *api.Cred){
		"Pred":           func(c *api.Cred) { c.Pred = 1 },
		"a large Pred":   func(c *api.Cred) { c.Pred = 1 << 31 },
		"Args":           func(c *api.Cred) { c.Args = 1 },
		"negative Args":  func(c *api.Cred) { c.Args = -1 },
		"To":             func(c *api.Cred) { c.To = 1 },
		"a large To":     func(c *api.Cred) { c.To = 1 << 31 },
		"Depth":          func(c *api.Cred) { c.Depth = 1 },
		"negative Depth": func(c *api.Cred) { c.Depth = -1 },
		"large Depth":    func(c *api.Cred) { c.Depth = 1 << 32 },
	}
	for what, turn := range rules {
		for _, c := range []api.Cred{simple(), rule(atom(7)), largest()} {
			if turn(&c); cred.May(c) {
				t.Errorf("P19.1: May of a CredRule with %s", what)
			}
			holds(t, what, c)
		}
	}
}

func TestHeadIsSaidByNobody(t *testing.T) {
	for _, said := range []bool{false, true} {
		for _, who := range []api.Term{s(0), s(1), s(3), s(math.MaxUint32), x(0), x(1), x(15), x(16)} {
			c := simple()
			c.Rule.Head.Said, c.Rule.Head.Who = said, who
			if got := cred.May(c); got != (!said && who == s(0)) {
				t.Errorf("P19.1: May, Said %v, Who %v: %v", said, who, got)
			}
			holds(t, "the head's Who", c)
		}
	}
}

func TestEachOfTheBodyIsSaidAndNotNot(t *testing.T) {
	for n := 1; n <= 8; n++ {
		for at := range n {
			for way := range 8 {
				c := rule(atom(7))
				for i := range n {
					c.Rule.Body = append(c.Rule.Body, says(s(uint32(i)), atom(8)))
				}
				one := &c.Rule.Body[at]
				one.Not, one.S.Said = way&1 != 0, way&2 == 0
				if way&4 != 0 {
					one.S.Who = s(0)
				}
				if got := cred.May(c); got != (way&3 == 0) {
					t.Errorf("P19.1: May, one of the body Not %v, Said %v: %v", one.Not, one.S.Said, got)
				}
				holds(t, "one of the body", c)
			}
		}
	}
}

// atoms are all of a rule, its head first.
func atoms(c *api.Cred) []*api.Atom {
	l := []*api.Atom{&c.Rule.Head.A}
	for i := range c.Rule.Body {
		l = append(l, &c.Rule.Body[i].S.A)
	}
	return l
}

// full is a rule with as many of the body as may be, whose atoms have no Args yet.
func full(n int) api.Cred {
	c := rule(atom(7))
	for i := range n {
		c.Rule.Body = append(c.Rule.Body, says(s(9), atom(uint32(10+i))))
	}
	return c
}

func TestHowManyArgs(t *testing.T) {
	for at := range 9 {
		for n := range 20 {
			c := full(8)
			atoms(&c)[at].Args = make([]api.Term, n)
			if got := cred.May(c); got != (n <= 5) {
				t.Errorf("R7: May, the atom %d of %d Args: %v", at, n, got)
			}
			holds(t, "how many Args", c)
		}
	}
}

func TestHowManyOfTheBody(t *testing.T) {
	for n := range 40 {
		if got := cred.May(full(n)); got != (n <= 8) {
			t.Errorf("R7: May, of %d of the body: %v", n, got)
		}
		holds(t, "how many of the body", full(n))
	}
}

func TestWhichVariables(t *testing.T) {
	for _, n := range []uint32{0, 1, 7, 14, 15, 16, 17, 31, 32, 255, 256, 1 << 16, 1<<31 - 1, 1 << 31, math.MaxUint32} {
		for at := range 9 {
			for place := range 5 {
				c := full(8)
				args := make([]api.Term, 5)
				args[place] = x(n)
				atoms(&c)[at].Args = args
				if at == 0 {
					c.Rule.Body[7].S.Who = x(n) // holds it
				}
				if got := cred.May(c); got != (n <= 15) {
					t.Errorf("R7: May, the variable %d at %d of the atom %d: %v", n, place, at, got)
				}
				holds(t, "which variables", c)
			}
			if at > 0 {
				c := full(8)
				c.Rule.Body[at-1].S.Who = x(n)
				if got := cred.May(c); got != (n <= 15) {
					t.Errorf("R7: May, the variable %d as Who of %d: %v", n, at-1, got)
				}
				holds(t, "which variables as Who", c)
			}
		}
	}
}

// A variable of the head is held by Who and by any Arg of any of the body, by nothing else.
func TestWhatHolds(t *testing.T) {
	for place := range 5 {
		for n := range uint32(16) {
			c := full(8)
			c.Rule.Head.A.Args = make([]api.Term, 5)
			c.Rule.Head.A.Args[place] = x(n)
			if cred.May(c) {
				t.Errorf("P19.1: May, where nothing holds %d", n)
			}
			holds(t, "nothing holds", c)
			for at := range 8 {
				for by := range 6 {
					for _, term := range []api.Term{x(n), s(n), x((n + 1) % 16)} {
						c := full(8)
						c.Rule.Head.A.Args = []api.Term{s(0), s(n), s(2), s(3), s(4)}
						c.Rule.Head.A.Args[place] = x(n)
						body := &c.Rule.Body[at].S
						body.A.Args = make([]api.Term, 5)
						if by == 5 {
							body.Who = term
						} else {
							body.A.Args[by] = term
						}
						if got := cred.May(c); got != (term == x(n)) {
							t.Errorf("P19.1: May, where %v is to hold %d: %v", term, n, got)
						}
						holds(t, "what holds", c)
					}
				}
			}
		}
	}
	for _, c := range []api.Cred{
		rule(atom(7, x(0))), rule(atom(7, x(0), x(1)), says(x(0), atom(7))), rule(atom(7, x(0), x(1)), says(x(1), atom(7))),
		rule(atom(7, x(3), s(1), x(3)), says(x(2), atom(7, s(3)))),
	} {
		if cred.May(c) {
			t.Errorf("P19.1: May of %s", text(c))
		}
		holds(t, "one is not held", c)
	}
}

// A predicate may have two lengths: only what atoms.May takes, and what is held, is asked.
func TestPredicatesOfTwoLengths(t *testing.T) {
	for n := range 6 {
		for m := range 6 {
			c := rule(atom(7, make([]api.Term, n)...), says(s(1), atom(7, make([]api.Term, m)...)), says(s(1), atom(8)), says(s(1), atom(8, x(0))))
			if !cred.May(c) {
				t.Errorf("P19.1: May, a predicate of %d and %d Args", n, m)
			}
			holds(t, "two lengths", c)
			c.Rule.Head.A.Args = append([]api.Term{x(1)}, c.Rule.Head.A.Args...)
			if cred.May(c) {
				t.Errorf("P19.1: May, a predicate of %d and %d Args, and one that is not held", n+1, m)
			}
			holds(t, "two lengths, and not held", c)
		}
	}
}

// An issuer may say what hangs on its own word: who issues says nothing of which rule may be.
func TestIssuersOwnWord(t *testing.T) {
	for _, issuer := range []uint32{0, 1, 7, math.MaxUint32} {
		c := rule(atom(7, x(0)), says(s(issuer), atom(7, x(0))))
		c.Issuer = issuer
		if !cred.May(c) {
			t.Errorf("P19.1: May of %s", text(c))
		}
		holds(t, "its own word", c)
	}
}

func TestSmallOnes(t *testing.T) {
	terms := []api.Term{x(0), x(1), s(0), s(1)}
	lists := [][]api.Term{nil}
	for _, a := range terms {
		lists = append(lists, []api.Term{a})
		for _, b := range terms {
			lists = append(lists, []api.Term{a, b})
		}
	}
	seen := map[string]string{}
	unlike := func(c api.Cred) {
		holds(t, "small ones", c)
		if b := cred.Bytes(c); len(b) > 0 {
			if had, is := seen[string(b)]; is {
				t.Errorf("P19.3: the same Bytes: %s and %s", had, text(c))
			}
			seen[string(b)] = text(c)
		}
	}
	for _, head := range lists {
		unlike(rule(atom(7, head...)))
		for _, who := range terms {
			for _, body := range lists {
				unlike(rule(atom(7, head...), says(who, atom(8, body...))))
				if len(head) < 2 && len(body) < 2 {
					for _, other := range lists[:5] {
						unlike(rule(atom(7, head...), says(who, atom(8, body...)), says(x(1), atom(8, other...))))
					}
				}
			}
		}
	}
	for way := range 1 << 12 {
		c := api.Cred{Kind: api.CredGive, Issuer: uint32(way & 3), Serial: uint64(way >> 2 & 3), Until: 1, Pred: uint32(way >> 4 & 3), Args: way >> 6 & 3, To: uint32(way >> 8 & 3), Depth: way >> 10}
		unlike(c)
	}
	if len(seen) < 4096+21 {
		t.Errorf("P19.3: %d of them may be", len(seen))
	}
}

func TestReadOfEachPrefix(t *testing.T) {
	for _, c := range good() {
		b := cred.Bytes(c)
		for n := range b {
			reads(t, "a prefix", b[:n])
			if got, e := cred.Read(b[:n]); e != api.ErrBytes || !isZero(got) {
				t.Errorf("P19.1: Read of %d of %d bytes: %s, %d", n, len(b), text(got), e)
			}
		}
		for n := 1; n <= 33; n++ {
			for _, more := range []byte{0, 1, 0xff} {
				if got, e := cred.Read(append(slices.Clone(b), bytes.Repeat([]byte{more}, n)...)); e != api.ErrBytes || !isZero(got) {
					t.Errorf("P19.1: Read of %d more bytes: %s, %d", n, text(got), e)
				}
			}
			reads(t, "without a beginning", b[min(n, len(b)):])
			reads(t, "with another beginning", append(make([]byte, n), b...))
		}
		reads(t, "twice", append(slices.Clone(b), b...))
	}
}

func TestReadOfEachByteTurned(t *testing.T) {
	for _, c := range good() {
		b := cred.Bytes(c)
		for at := range b {
			was := b[at]
			for bit := range 8 {
				b[at] = was ^ 1<<bit
				reads(t, "a bit turned", b)
			}
			for _, other := range []byte{0, 1, 0x7f, 0x80, 0xff} {
				b[at] = other
				reads(t, "another byte", b)
			}
			b[at] = was
		}
	}
}

func TestReadOfEachNumberAnother(t *testing.T) {
	others := []uint64{0, 1, 2, 3, 4, 5, 6, 7, 8, 9, 10, 16, 29, 30, 31, 32, 33, 255, 256, 257, 258, 1<<31 - 1, 1 << 31, 1<<32 - 1, 1 << 32, 1<<32 + 1, 1<<32 + 2, 1<<33 - 2, 1<<33 - 1, 1 << 33, 1<<33 + 1, 1<<40 - 1, 1 << 40, 1<<40 + 1, 1<<62 + 1, 1<<63 - 1, 1 << 63, 1<<63 + 1, 1<<63 + 2, math.MaxUint64 - 1, math.MaxUint64}
	for _, c := range good() {
		l := numbersOf(c)
		for at, was := range l {
			for _, n := range append(slices.Clone(others), was-1, was+1, was+1<<8, was+1<<32, was+1<<33, was+1<<63) {
				l[at] = n
				reads(t, fmt.Sprintf("the number %d another one", at), bytesOf(l...))
			}
			l[at] = was
			reads(t, "a number less", bytesOf(slices.Delete(slices.Clone(l), at, at+1)...))
			for _, n := range []uint64{0, 1, was} {
				reads(t, "a number more", bytesOf(slices.Insert(slices.Clone(l), at, n)...))
			}
		}
	}
}

// What stands for nothing that may be, though its numbers are at their places.
func TestReadOfWhatMayNotBe(t *testing.T) {
	for what, l := range map[string][]uint64{
		"no kind":              {0, 5, 1, 0, 9, 7, 1, 6, 0},
		"a third kind":         {3, 5, 1, 0, 9, 7, 1, 6, 0},
		"a kind cut to 8 bits": {1<<8 + 2, 5, 1, 0, 9, 7, 1, 6, 0},
		"a large issuer":       {2, 1 << 32, 1, 0, 9, 7, 1, 6, 0},
		"over at once":         {2, 5, 1, 9, 9, 7, 1, 6, 0},
		"over too late":        {2, 5, 1, 0, 1<<40 + 1, 7, 1, 6, 0},
		"a large Pred":         {2, 5, 1, 0, 9, 1<<32 + 7, 1, 6, 0},
		"six Args":             {2, 5, 1, 0, 9, 7, 6, 6, 0},
		"Args below 0":         {2, 5, 1, 0, 9, 7, math.MaxUint64, 6, 0},
		"a large To":           {2, 5, 1, 0, 9, 7, 1, 1 << 32, 0},
		"too deep":             {2, 5, 1, 0, 9, 7, 1, 6, 4},
		"a depth below 0":      {2, 5, 1, 0, 9, 7, 1, 6, math.MaxUint64},
		"not held":             {1, 5, 1, 0, 9, 7, 1, 1, 0},
		"a large variable":     {1, 5, 1, 0, 9, 7, 0, 1, 33, 8, 0},
		"a larger one":         {1, 5, 1, 0, 9, 7, 0, 1, 1<<33 + 1, 8, 0},
		"a large symbol":       {1, 5, 1, 0, 9, 7, 1, 1 << 33, 0},
		"six Args of a head":   {1, 5, 1, 0, 9, 7, 6, 0, 0, 0, 0, 0, 0, 0},
		"six Args of the body": {1, 5, 1, 0, 9, 7, 0, 1, 0, 8, 6, 0, 0, 0, 0, 0, 0},
		"nine of the body":     append([]uint64{1, 5, 1, 0, 9, 7, 0, 9}, make([]uint64, 27)...),
		"far more Args":        {1, 5, 1, 0, 9, 7, math.MaxUint64, 0},
		"far more of the body": {1, 5, 1, 0, 9, 7, 0, math.MaxUint64, 0, 8, 0},
		"1 << 61 of the body":  {1, 5, 1, 0, 9, 7, 0, 1 << 61},
		"noughts":              make([]uint64, 9),
		"nothing":              nil,
		"an Undo's":            {5, 1},
		"an Undo's like kinds": {2, 5},
	} {
		b := bytesOf(l...)
		if c, e := cred.Read(b); e != api.ErrBytes || !isZero(c) {
			t.Errorf("P19.1: Read, %s: %s, %d", what, text(c), e)
		}
		reads(t, what, b)
	}
}

func TestReadOfAnyLength(t *testing.T) {
	for _, c := range []byte{0, 1, 2, 0x7f, 0x80, 0xff} {
		for n := range 1300 {
			reads(t, "each length", bytes.Repeat([]byte{c}, n))
		}
	}
	for _, kind := range []uint64{1, 2} {
		b := append(bytesOf(kind, 5, 1, 0, 9), make([]byte, 1<<24)...)
		reads(t, "many bytes", b)
		clear(b)
		reads(t, "many noughts", b)
	}
}

func TestSignByEachKey(t *testing.T) {
	tags := map[api.Tag]string{}
	for i, key := range keys() {
		for _, c := range good() {
			b := bytesOf(numbersOf(c)...)
			tag := cred.Sign(key, c)
			if tag != tagOf(key, 1, b) {
				t.Errorf("P19.2: Sign by the key %d of %s: %x", i, text(c), tag)
			}
			if !cred.Check(key, c, tag) {
				t.Errorf("P19.2: Check by the key %d of %s", i, text(c))
			}
			who := fmt.Sprintf("%q %s", bytes.TrimRight(key, "\x00"), text(c)) // noughts behind a short key make no other one (hmac)
			if len(key) > 64 {
				who = fmt.Sprint(i, text(c))
			}
			if had, is := tags[tag]; is && had != who {
				t.Errorf("P19.3: one tag of two: %s and %s", had, who)
			}
			tags[tag] = who
		}
	}
}

func TestCheckOfOtherTags(t *testing.T) {
	for _, c := range []api.Cred{give(), simple(), largest()} {
		key := []byte("key")
		tag := cred.Sign(key, c)
		for bit := range 256 {
			other := tag
			other[bit/8] ^= 1 << (bit % 8)
			if cred.Check(key, c, other) {
				t.Errorf("P19.2: Check, the bit %d turned", bit)
			}
		}
		b := cred.Bytes(c)
		for what, other := range map[string]api.Tag{
			"noughts": {}, "no byte ahead": tagOf(key, b[0], b[1:]), "a byte 0": tagOf(key, 0, b), "a byte 2": tagOf(key, 2, b),
			"a byte behind": tagOf(key, 1, append(slices.Clone(b), 0)), "another key": cred.Sign([]byte("kez"), c),
			"no key": cred.Sign(nil, c), "an Undo": cred.Undo(key, c.Issuer, c.Serial), "the hash": api.Tag(sha256.Sum256(b)),
		} {
			if cred.Check(key, c, other) {
				t.Errorf("P19.2: Check, %s", what)
			}
		}
		for _, other := range [][]byte{nil, {}, []byte("ke"), []byte("keyy"), []byte("Key"), []byte("kez")} {
			if cred.Check(other, c, tag) {
				t.Errorf("P19.2: Check by %q", other)
			}
		}
	}
}

// The tag of one is none of all others.
func TestCheckOfOtherCredentials(t *testing.T) {
	all := good()
	for i := range all {
		tag := cred.Sign([]byte("key"), all[i])
		for j := range all {
			if got := cred.Check([]byte("key"), all[j], tag); got != (text(all[i]) == text(all[j])) {
				t.Errorf("P19.2: Check of %s by the tag of %s: %v", text(all[j]), text(all[i]), got)
			}
		}
	}
}

func TestOfOneThatMayNotBe(t *testing.T) {
	late, deep, said, open := give(), give(), simple(), rule(atom(7, x(0)))
	late.From, deep.Depth, said.Rule.Head.Said = 9, 4, true
	for _, c := range []api.Cred{{}, late, deep, said, open} {
		if b := cred.Bytes(c); len(b) != 0 {
			t.Errorf("P19.1: Bytes of %s: %x", text(c), b)
		}
		for i, key := range keys() {
			if tag := cred.Sign(key, c); tag != (api.Tag{}) {
				t.Errorf("P19.2: Sign by the key %d of %s: %x", i, text(c), tag)
			}
			for _, tag := range []api.Tag{{}, cred.Sign(key, c), tagOf(key, 1, nil), tagOf(key, 1, bytesOf(numbersOf(c)...)), cred.Sign(key, give())} {
				if cred.Check(key, c, tag) {
					t.Errorf("P19.2: Check by the key %d of %s, %x", i, text(c), tag)
				}
			}
		}
	}
}

func TestUndo(t *testing.T) {
	tags := map[api.Tag]string{}
	for bit := range 65 {
		for _, d := range []uint64{0, 1, math.MaxUint64} {
			serial := uint64(1)<<bit + d
			for _, issuer := range []uint32{0, 1, 5, uint32(serial), uint32(serial >> 32), math.MaxUint32} {
				tag := cred.Undo([]byte("key"), issuer, serial)
				if tag != tagOf([]byte("key"), 2, bytesOf(uint64(issuer), serial)) {
					t.Errorf("P19.2: Undo of %d, %d: %x", issuer, serial, tag)
				}
				who := fmt.Sprint(issuer, serial)
				if had, is := tags[tag]; is && had != who {
					t.Errorf("P19.2: one tag of two: %s and %s", had, who)
				}
				tags[tag] = who
			}
		}
	}
	for i, key := range keys() {
		if tag := cred.Undo(key, 5, 1); tag != tagOf(key, 2, bytesOf(5, 1)) {
			t.Errorf("P19.2: Undo by the key %d: %x", i, tag)
		}
	}
}

// No credential has an Undo's bytes, and no tag of one undoes it, or is one's of what is undone.
func TestNoneIsAnUndo(t *testing.T) {
	for _, c := range good() {
		b := cred.Bytes(c)
		for _, key := range keys() {
			tag, undo := cred.Sign(key, c), cred.Undo(key, c.Issuer, c.Serial)
			if tag == undo || cred.Check(key, c, undo) {
				t.Errorf("P19.3: the Undo of %s is its tag", text(c))
			}
		}
		undo := bytesOf(uint64(c.Issuer), c.Serial)
		if bytes.Equal(b, undo) || bytes.HasPrefix(undo, b) {
			t.Errorf("P19.3: %s has the bytes of an Undo", text(c))
		}
		reads(t, "an Undo's bytes", undo)
		reads(t, "an Undo's bytes, and what is ahead of them", append([]byte{2}, undo...))
		reads(t, "what is ahead of its bytes, too", append([]byte{1}, b...))
	}
}

// roomy is a copy whose lists have room behind their ends, with something there.
func roomy(c api.Cred) (api.Cred, func() string) {
	terms := func(l []api.Term) []api.Term { return append(slices.Clone(l), x(77), s(78), x(79))[:len(l)] }
	c.Rule.Head.A.Args = terms(c.Rule.Head.A.Args)
	body := append(slices.Clone(c.Rule.Body), says(s(80), atom(81, s(82))))
	for i := range body {
		body[i].S.A.Args = terms(body[i].S.A.Args)
	}
	c.Rule.Body = body[:len(body)-1]
	return c, func() string {
		out := text(c) + fmt.Sprint(body)
		for _, a := range append(atoms(&c), &body[len(body)-1].S.A) {
			out += fmt.Sprint(a.Args[:len(a.Args)+3])
		}
		return out
	}
}

func TestWhatIsHandedInIsNotChangedAndNotKept(t *testing.T) {
	for _, one := range append(good(), full(9), rule(atom(7, x(0)))) {
		c, whole := roomy(one)
		was := whole()
		key := []byte("a key, and more")
		tag := cred.Sign(key[:5], c)
		cred.May(c)
		b := cred.Bytes(c)
		cred.Check(key[:5], c, tag)
		cred.Undo(key[:5], c.Issuer, c.Serial)
		if whole() != was {
			t.Errorf("R3: the credential that was handed in is changed: %s, not %s", whole(), was)
		}
		if string(key) != "a key, and more" {
			t.Errorf("R3: the key that was handed in is changed: %q", key)
		}
		want := slices.Clone(b)
		for _, a := range atoms(&c) {
			clear(a.Args[:cap(a.Args)])
			a.Pred++
		}
		if !bytes.Equal(b, want) {
			t.Errorf("R3: Bytes hang together with the credential: %x", b)
		}
	}
}

func TestBytesThatAreReadAreNotChangedAndNotKept(t *testing.T) {
	for _, c := range good() {
		b := append(cred.Bytes(c), "more"...)
		was := slices.Clone(b)
		got, e := cred.Read(b[:len(b)-4])
		if e != api.OK || !bytes.Equal(b, was) {
			t.Errorf("R3: Read: %d; the bytes that were handed in: %s, not %s", e, short(b), short(was))
		}
		clear(b)
		if text(got) != text(c) {
			t.Errorf("R3: what was read hangs together with the bytes: %s, not %s", text(got), text(c))
		}
	}
}

func TestWhatIsAnsweredIsNewMemory(t *testing.T) {
	for _, c := range good() {
		one, two := cred.Bytes(c), cred.Bytes(c)
		clear(one[:cap(one)])
		if !bytes.Equal(two, bytesOf(numbersOf(c)...)) {
			t.Errorf("R3: two answers of Bytes hang together: %s", short(two))
		}
		first, _ := cred.Read(two)
		second, _ := cred.Read(two)
		for _, a := range atoms(&first) {
			clear(a.Args[len(a.Args):cap(a.Args)])
		}
		clear(first.Rule.Body[len(first.Rule.Body):cap(first.Rule.Body)])
		if text(first) != text(c) {
			t.Errorf("R3: lists of one answer of Read hang together: %s", text(first))
		}
		for _, a := range atoms(&first) {
			clear(a.Args[:cap(a.Args)])
		}
		clear(first.Rule.Body[:cap(first.Rule.Body)])
		if text(second) != text(c) {
			t.Errorf("R3: two answers of Read hang together: %s", text(second))
		}
	}
}

func TestEmptyListsAreNone(t *testing.T) {
	g := give()
	g.Rule.Head.A.Args, g.Rule.Body = []api.Term{}, make([]api.Cond, 0, 4)
	r := rule(api.Atom{Pred: 7, Args: make([]api.Term, 0, 4)}, says(s(1), api.Atom{Pred: 8, Args: []api.Term{}}))
	n := rule(api.Atom{Pred: 7, Args: []api.Term{}}, []api.Cond{}...)
	for _, c := range []api.Cred{g, r, n} {
		if !cred.May(c) {
			t.Errorf("R3: May of %s with empty lists", text(c))
		}
		holds(t, "empty lists", c)
	}
	for _, b := range [][]byte{nil, {}, make([]byte, 9)[:0]} {
		if c, e := cred.Read(b); e != api.ErrBytes || !isZero(c) {
			t.Errorf("R3: Read of nothing: %s, %d", text(c), e)
		}
	}
}

// What is far beyond all limits is gone through too.
func TestLargeOnes(t *testing.T) {
	terms := make([]api.Term, 1<<20)
	conds := make([]api.Cond, 1<<20)
	for i := range conds {
		conds[i] = says(s(1), atom(8, terms...))
	}
	key := make([]byte, 1<<20)
	for what, c := range map[string]api.Cred{
		"many Args of the head": rule(atom(7, terms...)), "many Args": rule(atom(7), conds[:8]...), "a long body": rule(atom(7), conds...),
		"a long body of nothing": rule(atom(7), make([]api.Cond, 1<<20)...),
	} {
		if cred.May(c) || len(cred.Bytes(c)) > 0 || cred.Sign(key, c) != (api.Tag{}) || cred.Check(key, c, api.Tag{}) {
			t.Errorf("R1: %s may be", what)
		}
		if c.Kind = api.CredGive; cred.May(c) {
			t.Errorf("R1: a CredGive with %s may be", what)
		}
	}
	if cred.Sign(key, give()) != tagOf(key, 1, cred.Bytes(give())) {
		t.Error("P19.2: Sign by a long key")
	}
}

func TestTheSameIsAnsweredAgain(t *testing.T) {
	for range 3 {
		for _, c := range append(good(), api.Cred{}, full(9), rule(atom(7, x(0)))) {
			holds(t, "again", c)
		}
	}
}

// chance makes credentials of bytes: of most of them all that may be, and of some a field that may not.
type chance struct{ rest []byte }

func (h *chance) one(n int) int {
	if len(h.rest) == 0 {
		return 0
	}
	got := int(h.rest[0])
	h.rest = h.rest[1:]
	return got % n
}

// rarely: in one of so many.
func (h *chance) rarely(n int) bool { return h.one(n) == n-1 }

func (h *chance) number() uint64 {
	edges := []uint64{0, 1, 2, 7, 1<<32 - 1, 1 << 32, 1<<40 - 1, 1 << 40, 1 << 63, math.MaxUint64}
	return edges[h.one(len(edges))]
}

func (h *chance) term() api.Term {
	switch {
	case h.rarely(60):
		return x(16 + uint32(h.number()))
	case h.one(2) == 0:
		return x(uint32([]int{0, 1, 2, 15}[h.one(4)]))
	}
	return s(uint32(h.number()))
}

func (h *chance) atom() api.Atom {
	a := atom(uint32(h.number()))
	n := h.one(6)
	if h.rarely(60) {
		n = 6
	}
	for range n {
		a.Args = append(a.Args, h.term())
	}
	return a
}

func (h *chance) rule() api.Rule {
	r := api.Rule{}
	n := h.one(9)
	if h.rarely(30) {
		n = 9
	}
	for range n {
		c := says(h.term(), h.atom())
		c.Not, c.S.Said = h.rarely(60), !h.rarely(60)
		r.Body = append(r.Body, c)
	}
	r.Head.A = h.atom()
	if h.rarely(30) {
		r.Head.Said, r.Head.Who = h.one(2) == 0, h.term()
	}
	return r
}

func (h *chance) cred() api.Cred {
	c := api.Cred{Kind: uint8(1 + h.one(2)), Issuer: uint32(h.number()), Serial: h.number(), Until: uint64(1 + h.one(9))}
	if h.rarely(10) {
		c.From, c.Until = h.number(), h.number()
	}
	if h.rarely(30) {
		c.Kind = uint8(h.number())
	}
	if c.Kind == 1 || h.rarely(10) {
		c.Rule = h.rule()
	}
	if c.Kind == 2 || h.rarely(10) {
		c.Pred, c.Args, c.To, c.Depth = uint32(h.number()), h.one(8)-1, uint32(h.number()), h.one(6)-1
	}
	return c
}

// asTold holds what is said of a credential that bytes make, of another one near it, and of its bytes with some turned, against the document.
func asTold(t *testing.T, b []byte) {
	t.Helper()
	reads(t, "any bytes", b)
	h := &chance{b}
	c := h.cred()
	holds(t, "by chance", c)
	l := numbersOf(c)
	l[h.one(len(l))] = h.number()
	reads(t, "a number by chance", bytesOf(l...))
	l[h.one(len(l))]++
	reads(t, "two numbers by chance", bytesOf(l...))
}

func TestManyByChance(t *testing.T) {
	r := rand.New(rand.NewSource(19))
	may := 0
	for range 60000 {
		b := make([]byte, 20+r.Intn(200))
		r.Read(b)
		asTold(t, b)
		if mayBe((&chance{b}).cred()) {
			may++
		}
	}
	if may < 6000 || may > 54000 {
		t.Errorf("%d of 60000 may be", may)
	}
}

func FuzzAsTold(f *testing.F) {
	f.Add([]byte{})
	f.Add([]byte(strings.Repeat("\x01\x00\x03", 40)))
	for _, c := range good() {
		f.Add(bytesOf(numbersOf(c)...))
	}
	f.Fuzz(func(t *testing.T, b []byte) { asTold(t, b) })
}
