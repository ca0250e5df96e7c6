package wire_test

import (
	"bytes"
	"encoding/binary"
	"encoding/hex"
	"fmt"
	"math"
	"math/rand"
	"slices"
	"strings"
	"testing"

	"bailey/api"
	"bailey/wire"
)

// x is a variable, s a symbol.
func x(n uint32) api.Term { return api.Term{Var: true, N: n} }
func s(n uint32) api.Term { return api.Term{N: n} }

func atom(pred uint32, l ...api.Term) api.Atom { return api.Atom{Pred: pred, Args: l} }
func fact(pred uint32, l ...uint32) api.Fact   { return api.Fact{Pred: pred, Args: l} }

func clause(head api.Atom, body ...api.Lit) api.Clause { return api.Clause{Head: head, Body: body} }
func rule(head api.Say, body ...api.Cond) api.Rule     { return api.Rule{Head: head, Body: body} }

func here(a api.Atom) api.Say               { return api.Say{A: a} }
func says(who api.Term, a api.Atom) api.Say { return api.Say{Said: true, Who: who, A: a} }

// kind is what is said of facts, of clauses or of rules: by the program, and by the test.
type kind[T any] struct {
	name   string
	put    func([]byte, T) ([]byte, api.Errno)
	take   func([]byte, int) (T, int, api.Errno)
	may    func(T) bool
	pieces func(T) [][]byte // each a var or a single byte
	scan   func(*scan) T
}

var (
	facts   = kind[api.Fact]{"Fact", wire.PutFact, wire.TakeFact, mayFact, piecesOfFact, (*scan).fact}
	clauses = kind[api.Clause]{"Clause", wire.PutClause, wire.TakeClause, mayClause, piecesOfClause, (*scan).clause}
	rules   = kind[api.Rule]{"Rule", wire.PutRule, wire.TakeRule, mayRule, piecesOfRule, (*scan).rule}
)

func mayFact(f api.Fact) bool { return len(f.Args) <= 6 }

func mayClause(c api.Clause) bool {
	may := len(c.Body) <= 8 && mayAtom(c.Head)
	for _, l := range c.Body {
		may = may && mayAtom(l.A)
	}
	return may
}

func mayRule(r api.Rule) bool {
	may := len(r.Body) <= 8 && maySay(r.Head)
	for _, c := range r.Body {
		may = may && maySay(c.S)
	}
	return may
}

func maySay(a api.Say) bool {
	if !a.Said && (a.Who.Var || a.Who.N != 0) {
		return false
	}
	return mayAtom(a.A) && (!a.Who.Var || a.Who.N <= 15)
}

func mayAtom(a api.Atom) bool {
	may := len(a.Args) <= 6
	for _, t := range a.Args {
		may = may && (!t.Var || t.N <= 15)
	}
	return may
}

func varOf(n uint64) []byte { return binary.AppendUvarint(nil, n) }

func soOf(is bool) []byte {
	if is {
		return []byte{1}
	}
	return []byte{0}
}

func piecesOfFact(f api.Fact) [][]byte {
	l := [][]byte{varOf(uint64(f.Pred)), {byte(len(f.Args))}}
	for _, n := range f.Args {
		l = append(l, varOf(uint64(n)))
	}
	return l
}

func pieceOfTerm(t api.Term) []byte {
	if t.Var {
		return varOf(2*uint64(t.N) + 1)
	}
	return varOf(2 * uint64(t.N))
}

func piecesOfAtom(a api.Atom) [][]byte {
	l := [][]byte{varOf(uint64(a.Pred)), {byte(len(a.Args))}}
	for _, t := range a.Args {
		l = append(l, pieceOfTerm(t))
	}
	return l
}

func piecesOfClause(c api.Clause) [][]byte {
	l := append(piecesOfAtom(c.Head), []byte{byte(len(c.Body))})
	for _, lit := range c.Body {
		l = append(append(l, soOf(lit.Not)), piecesOfAtom(lit.A)...)
	}
	return l
}

func piecesOfSay(a api.Say) [][]byte {
	l := [][]byte{soOf(a.Said)}
	if a.Said {
		l = append(l, pieceOfTerm(a.Who))
	}
	return append(l, piecesOfAtom(a.A)...)
}

func piecesOfRule(r api.Rule) [][]byte {
	l := append(piecesOfSay(r.Head), []byte{byte(len(r.Body))})
	for _, c := range r.Body {
		l = append(append(l, soOf(c.Not)), piecesOfSay(c.S)...)
	}
	return l
}

func (k kind[T]) bytes(thing T) []byte { return slices.Concat(k.pieces(thing)...) }

// scan is a reader that goes on over what is wrong, and says so at the end.
type scan struct {
	rest  []byte
	wrong bool
}

func (c *scan) single() int {
	if len(c.rest) == 0 {
		c.wrong = true
		return 0
	}
	n := int(c.rest[0])
	c.rest = c.rest[1:]
	return n
}

func (c *scan) so() bool {
	n := c.single()
	c.wrong = c.wrong || n > 1
	return n == 1
}

func (c *scan) long() uint64 {
	n, size := binary.Uvarint(c.rest)
	if size != len(varOf(n)) {
		c.wrong, c.rest = true, nil
		return 0
	}
	c.rest = c.rest[size:]
	return n
}

func (c *scan) number() uint32 {
	n := c.long()
	c.wrong = c.wrong || n>>32 != 0
	return uint32(n)
}

func (c *scan) term() api.Term {
	n := c.long()
	c.wrong = c.wrong || n>>33 != 0
	return api.Term{Var: n&1 != 0, N: uint32(n >> 1)}
}

func (c *scan) fact() api.Fact {
	f := fact(c.number())
	for range c.single() {
		f.Args = append(f.Args, c.number())
	}
	return f
}

func (c *scan) atom() api.Atom {
	a := atom(c.number())
	for range c.single() {
		a.Args = append(a.Args, c.term())
	}
	return a
}

func (c *scan) clause() api.Clause {
	d := clause(c.atom())
	for range c.single() {
		not := c.so()
		d.Body = append(d.Body, api.Lit{Not: not, A: c.atom()})
	}
	return d
}

func (c *scan) say() api.Say {
	if c.so() {
		who := c.term()
		return says(who, c.atom())
	}
	return here(c.atom())
}

func (c *scan) rule() api.Rule {
	r := rule(c.say())
	for range c.single() {
		not := c.so()
		r.Body = append(r.Body, api.Cond{Not: not, S: c.say()})
	}
	return r
}

// text is of a thing; it does not tell nil from empty lists.
func text(thing any) string { return fmt.Sprintf("%+v", thing) }

// takes holds a take against the document, and tells whether something was taken.
func takes[T any](t *testing.T, k kind[T], b []byte, at int) bool {
	t.Helper()
	var want T
	next, e := 0, api.ErrArg
	if at >= 0 && at <= len(b) {
		c := &scan{rest: b[at:]}
		e = api.ErrBytes
		if thing := k.scan(c); !c.wrong && k.may(thing) {
			want, next, e = thing, len(b)-len(c.rest), api.OK
		}
	}
	before := bytes.Clone(b)
	got, to, err := k.take(b, at)
	if text(got) != text(want) || to != next || err != e {
		t.Errorf("P6.2: Take%s of %x at %d: %v, %d, %d, not %v, %d, %d", k.name, b, at, got, to, err, want, next, e)
		return false
	}
	if !bytes.Equal(b, before) {
		t.Errorf("R3: Take%s changes its bytes, which were %x", k.name, before)
	}
	if err != api.OK {
		return false
	}
	if again, e := k.put(b[:at], got); e != api.OK || !bytes.Equal(again, b[:next]) {
		t.Errorf("P6.3: what Take%s takes of %x at %d is put otherwise: %x, %d", k.name, b, at, again, e)
	}
	return true
}

// allTake holds the three against the document.
func allTake(t *testing.T, b []byte, at int) {
	t.Helper()
	takes(t, facts, b, at)
	takes(t, clauses, b, at)
	takes(t, rules, b, at)
}

// around are what may stand ahead and behind.
var around = []string{"", "\x00", "\x01", "\x80", "\xff\xff\xff", "\x01\x01\x01\x01\x01\x01\x01"}

// holds puts a thing and takes it, whatever stands around it.
func holds[T any](t *testing.T, k kind[T], thing T, want bool) {
	t.Helper()
	if k.may(thing) != want {
		t.Fatalf("the test itself is wrong: %s %v", k.name, thing)
	}
	if r, is := any(thing).(api.Rule); is && wire.May(r) != want {
		t.Errorf("P6.1: May of %v: %v", thing, !want)
	}
	wanted := text(thing)
	for i, ahead := range around {
		got, e := k.put([]byte(ahead), thing)
		if !want {
			if len(got) != 0 || e != api.ErrForm {
				t.Errorf("P6.1: Put%s of %v, which may not be: %x, %d", k.name, thing, got, e)
			}
			continue
		}
		if want := append([]byte(ahead), k.bytes(thing)...); !bytes.Equal(got, want) || e != api.OK {
			t.Errorf("P6.1: Put%s of %v behind %x: %x, %d, not %x", k.name, thing, ahead, got, e, want)
			continue
		}
		b := append(bytes.Clone(got), around[(i+3)%len(around)]...)
		taken, next, e := k.take(b, len(ahead))
		if text(taken) != wanted || next != len(got) || e != api.OK {
			t.Errorf("P6.3: Take%s of %x at %d: %v, %d, %d, not %v", k.name, b, len(ahead), taken, next, e, thing)
		}
	}
}

func unhex(t *testing.T, text string) []byte {
	t.Helper()
	b, err := hex.DecodeString(strings.ReplaceAll(text, " ", ""))
	if err != nil {
		t.Fatal("the test itself is wrong: ", err)
	}
	return b
}

// putsAs says by hand which bytes a thing has.
func putsAs[T any](t *testing.T, k kind[T], thing T, want string) {
	t.Helper()
	b, e := k.put(nil, thing)
	if !bytes.Equal(b, unhex(t, want)) || e != api.OK {
		t.Errorf("P6.1: Put%s of %v: %x, %d, not %s", k.name, thing, b, e, want)
	}
	holds(t, k, thing, true)
}

func TestTheDocumentsExamples(t *testing.T) {
	putsAs(t, facts, fact(1, 2, 300), "01 02 02 ac 02")
	putsAs(t, clauses, clause(atom(1, x(0)), api.Lit{A: atom(2, x(0), s(5))}), "01 01 01 01 00 02 02 01 0a")
	for _, b := range []string{"01 07", "01 01", "81 00 00"} {
		if f, next, e := wire.TakeFact(unhex(t, b), 0); f.Pred != 0 || len(f.Args) != 0 || next != 0 || e != api.ErrBytes {
			t.Errorf("P6.2: TakeFact of %s: %v, %d, %d", b, f, next, e)
		}
	}
}

func TestBytesByHand(t *testing.T) {
	putsAs(t, facts, fact(0), "00 00")
	putsAs(t, facts, fact(127, 128), "7f 01 80 01")
	putsAs(t, facts, fact(math.MaxUint32, math.MaxUint32), "ff ff ff ff 0f 01 ff ff ff ff 0f")
	putsAs(t, clauses, api.Clause{}, "00 00 00")
	putsAs(t, clauses, clause(atom(1, x(15), s(15), s(16), s(math.MaxUint32)), api.Lit{Not: true}), "01 04 1f 1e 20 fe ff ff ff 1f 01 01 00 00")
	putsAs(t, rules, api.Rule{}, "00 00 00 00")
	putsAs(t, rules, rule(says(s(0), atom(1))), "01 00 01 00 00")
	putsAs(t, rules, rule(here(atom(1, x(0))), api.Cond{S: says(s(3), atom(2, x(0)))}, api.Cond{Not: true, S: here(atom(4, x(0)))}), "00 01 01 01 02 00 01 06 02 01 01 01 00 04 01 01")
	putsAs(t, rules, rule(says(x(15), atom(200)), api.Cond{Not: true, S: says(s(math.MaxUint32), atom(0))}), "01 1f c8 01 00 01 01 01 fe ff ff ff 1f 00 00")
}

// numbers are at the edges of a var's length, of what a variable may be, and of what a number can be.
var numbers = []uint32{0, 1, 2, 14, 15, 16, 17, 31, 32, 63, 64, 127, 128, 300, 1<<13 - 1, 1 << 13, 1<<14 - 1, 1 << 14, 1<<20 - 1, 1 << 20, 1<<21 - 1, 1 << 21,
	1<<27 - 1, 1 << 27, 1<<28 - 1, 1 << 28, 1<<31 - 1, 1 << 31, 1<<31 + 1, math.MaxUint32 - 1, math.MaxUint32}

// terms are the symbols and variables of these numbers.
func terms() []api.Term {
	var l []api.Term
	for _, n := range numbers {
		l = append(l, s(n), x(n))
	}
	return l
}

func mayTerm(t api.Term) bool { return !t.Var || t.N < 16 }

// The largest ones have as much as may be, of as many bytes as may be.
func largestFact() api.Fact {
	const n = math.MaxUint32
	return fact(n, n-1, n-2, n-3, n-4, n-5, n-6)
}

func largestAtom() api.Atom {
	const n = math.MaxUint32
	return atom(n, s(n), s(n-1), s(n-2), s(n-3), s(n-4), s(n-5))
}

func largestClause() api.Clause {
	c := clause(largestAtom())
	for i := range 8 {
		c.Body = append(c.Body, api.Lit{Not: i%2 == 0, A: largestAtom()})
	}
	return c
}

func largestRule() api.Rule {
	r := rule(says(s(math.MaxUint32-7), largestAtom()))
	for i := range 8 {
		r.Body = append(r.Body, api.Cond{Not: i%2 == 0, S: says(s(math.MaxUint32-8), largestAtom())})
	}
	return r
}

// inClause is the atom of a clause's head (-1) or body, inRule the say of a rule's.
func inClause(c *api.Clause, place int) *api.Atom {
	if place < 0 {
		return &c.Head
	}
	return &c.Body[place].A
}

func inRule(r *api.Rule, place int) *api.Say {
	if place < 0 {
		return &r.Head
	}
	return &r.Body[place].S
}

// sizes holds the length of a thing's bytes against what may be at most.
func sizes[T any](t *testing.T, k kind[T], thing T, want int) {
	t.Helper()
	b, e := k.put(nil, thing)
	if len(b) != want || e != api.OK {
		t.Errorf("P6.3: the largest %s has %d bytes, not %d; %d", k.name, len(b), want, e)
	}
	holds(t, k, thing, true)
	for size := range b {
		if got, next, e := k.take(b[:size], 0); text(got) != text(*new(T)) || next != 0 || e != api.ErrBytes {
			t.Errorf("P6.2: Take%s of the first %d bytes of %d: %v, %d, %d", k.name, size, len(b), got, next, e)
		}
	}
}

func TestTheLargestOnes(t *testing.T) {
	sizes(t, facts, largestFact(), 36)
	sizes(t, clauses, largestClause(), 333)
	sizes(t, rules, largestRule(), 387)
}

func TestEachLength(t *testing.T) {
	for n := range 600 { // 256 and more too: their last byte alone would be of what may be
		args := make([]api.Term, n)
		holds(t, facts, fact(1, make([]uint32, n)...), n <= 6)
		holds(t, clauses, clause(atom(1, args...)), n <= 6)
		holds(t, clauses, clause(atom(1), api.Lit{A: atom(2, args...)}), n <= 6)
		holds(t, clauses, clause(atom(1), make([]api.Lit, n)...), n <= 8)
		holds(t, rules, rule(here(atom(1, args...))), n <= 6)
		holds(t, rules, rule(says(s(1), atom(1, args...))), n <= 6)
		holds(t, rules, rule(here(atom(1)), api.Cond{Not: true, S: says(x(1), atom(2, args...))}), n <= 6)
		holds(t, rules, rule(here(atom(1)), make([]api.Cond, n)...), n <= 8)
	}
}

func TestEachNumberOfAFact(t *testing.T) {
	for _, n := range numbers {
		holds(t, facts, fact(n), true)
		for at := range 6 {
			f := largestFact()
			f.Args[at] = n
			holds(t, facts, f, true)
		}
	}
}

func TestEachPlaceOfAClause(t *testing.T) {
	for place := -1; place < 8; place++ {
		for _, term := range terms() {
			for at := range 6 {
				c := largestClause()
				inClause(&c, place).Args[at] = term
				holds(t, clauses, c, mayTerm(term))
			}
		}
		c, d, e := largestClause(), largestClause(), largestClause()
		inClause(&c, place).Pred = 0
		inClause(&d, place).Args = nil
		a := inClause(&e, place)
		a.Args = append(a.Args, s(0))
		holds(t, clauses, c, true)
		holds(t, clauses, d, true)
		holds(t, clauses, e, false)
		if place >= 0 {
			c.Body[place].Not = !c.Body[place].Not
			holds(t, clauses, c, true)
			holds(t, clauses, clause(d.Head, d.Body[:place]...), true)
		}
	}
}

func TestEachPlaceOfARule(t *testing.T) {
	for place := -1; place < 8; place++ {
		for _, term := range terms() {
			r, q := largestRule(), largestRule()
			inRule(&r, place).Who = term
			holds(t, rules, r, mayTerm(term))
			*inRule(&q, place) = api.Say{Who: term, A: atom(1)}
			holds(t, rules, q, term == s(0))
			for at := range 6 {
				r := largestRule()
				inRule(&r, place).A.Args[at] = term
				holds(t, rules, r, mayTerm(term))
				*inRule(&r, place) = here(inRule(&r, place).A)
				holds(t, rules, r, mayTerm(term))
			}
		}
		r, q, p := largestRule(), largestRule(), largestRule()
		inRule(&r, place).A.Pred = 0
		inRule(&q, place).A.Args = nil
		a := &inRule(&p, place).A
		a.Args = append(a.Args, s(0))
		holds(t, rules, r, true)
		holds(t, rules, q, true)
		holds(t, rules, p, false)
		if place >= 0 {
			r.Body[place].Not = !r.Body[place].Not
			holds(t, rules, r, true)
			holds(t, rules, rule(q.Head, q.Body[:place]...), true)
		}
	}
}

// What is wrong in one way must not be made good by what is right in another one.
func TestRulesThatMayNotBeForTwoReasons(t *testing.T) {
	long := atom(1, make([]api.Term, 7)...)
	holds(t, rules, rule(api.Say{Who: x(16), A: long}, make([]api.Cond, 9)...), false)
	holds(t, rules, rule(says(x(16), atom(1)), api.Cond{S: here(atom(1))}), false)
	holds(t, rules, rule(here(atom(1)), api.Cond{S: here(atom(1))}, api.Cond{S: here(long)}), false)
	holds(t, rules, rule(here(atom(1)), api.Cond{S: here(long)}, api.Cond{S: here(atom(1))}), false)
	holds(t, rules, rule(here(atom(1, x(3))), api.Cond{Not: true, S: says(x(4), atom(1))}), true) // whether it is safe is for others to say
}

// With any piece of a thing's bytes another one, the document's own words say what stands there.
func otherPieces[T any](t *testing.T, k kind[T], thing T) {
	t.Helper()
	others := [][]byte{{}, {0x80, 0x00}, {0x81, 0x00}, {0xff, 0xff, 0xff, 0xff, 0x80, 0x00}}
	for n := range 256 {
		others = append(others, []byte{byte(n)})
	}
	for _, shift := range []int{7, 14, 31, 32, 33, 34, 35, 63} {
		for _, less := range []uint64{2, 1, 0} {
			others = append(others, varOf(1<<shift-less), varOf(1<<shift+less))
		}
	}
	others = append(others, varOf(math.MaxUint64), append(bytes.Repeat([]byte{0xff}, 9), 2), append(bytes.Repeat([]byte{0x80}, 10), 1))
	pieces := k.pieces(thing)
	for i := range pieces {
		for _, other := range others {
			l := slices.Clone(pieces)
			l[i] = other
			takes(t, k, slices.Concat(l...), 0)
		}
	}
}

func TestOtherPieces(t *testing.T) {
	otherPieces(t, facts, largestFact())
	otherPieces(t, facts, fact(1, 2, 300))
	otherPieces(t, clauses, largestClause())
	otherPieces(t, clauses, clause(atom(1, x(0)), api.Lit{A: atom(2, x(0), s(5))}, api.Lit{Not: true, A: atom(3)}))
	otherPieces(t, rules, largestRule())
	otherPieces(t, rules, rule(says(x(1), atom(1, x(0))), api.Cond{S: says(s(3), atom(2, x(0)))}, api.Cond{Not: true, S: here(atom(4, s(2)))}))
}

func TestAllShortBytes(t *testing.T) {
	for n := range 1 << 16 {
		allTake(t, []byte{byte(n >> 8), byte(n)}, 0)
	}
	alphabet := []byte{0, 1, 2, 6, 7, 8, 9, 0x1f, 0x20, 0x21, 0x7f, 0x80, 0x81, 0xff}
	all := [][]byte{nil}
	for from, size := 0, 0; size < 4; size++ {
		to := len(all)
		for _, b := range all[from:to] {
			for _, c := range alphabet {
				all = append(all, append(bytes.Clone(b), c))
			}
		}
		from = to
	}
	for _, b := range all {
		allTake(t, b, 0)
	}
}

// wrong says by hand that bytes are of none that may be.
func wrong[T any](t *testing.T, k kind[T], texts ...string) {
	t.Helper()
	for _, text := range texts {
		if _, next, e := k.take(unhex(t, text), 0); next != 0 || e != api.ErrBytes {
			t.Errorf("P6.2: Take%s of %s: %d, %d", k.name, text, next, e)
		}
	}
}

func TestWrongBytes(t *testing.T) {
	wrong(t, facts, "", "01", "80", "01 07 00 00 00 00 00 00 00", "01 01 80 00", "80 80 80 80 10 00", "01 01 80 80 80 80 10", "01 ff")
	wrong(t, clauses, "01 01 21 00", "01 01 80 80 80 80 20 00", "01 01 81 80 80 80 20 00", "01 00", "01 00 01 02 01 00", "01 00 01 ff 01 00", "01 00 09"+strings.Repeat("00 00 00", 9), "01 07 00 00 00 00 00 00 00 00", "80 80 80 80 10 00 00", "01 00 01 00 01 01 21")
	wrong(t, rules, "02 01 00 00", "01 21 01 00 00", "01 80 80 80 80 20 01 00 00", "01 00 01 00", "00 01 00 01 00 02 01 00", "00 01 00 01 02 00 01 00", "00 01 00 09"+strings.Repeat("00 00 00 00", 9), "00 01 00 01 00 01 21 01 00", "00 01 01 21 00")
}

// Many of what is too many are gone through once, and soon.
func TestManyBytes(t *testing.T) {
	ones := bytes.Repeat([]byte{1}, 1<<20)
	for _, c := range []byte{0, 1, 2, 0x80, 0xff} {
		b := bytes.Repeat([]byte{c}, 1<<20)
		copy(b[1<<19:], ones[:1<<10])
		for _, at := range []int{0, 1, 1<<19 - 1, 1 << 19, 1<<19 + 1<<10 - 1, 1<<20 - 1, 1 << 20, 1<<20 + 1} {
			allTake(t, b, at)
		}
	}
	b, e := wire.PutRule(ones, largestRule())
	if e != api.OK || len(b) != 1<<20+387 || !bytes.Equal(b[:1<<20], ones) {
		t.Errorf("P6.1: PutRule behind many bytes: %d of them, %d", len(b), e)
	}
	takes(t, rules, b, 1<<20)
}

func TestPlaces(t *testing.T) {
	bound := []int{math.MinInt, math.MinInt + 1, -1 << 32, -256, -2, -1, 0, 1, 2, 3, 4, 5, 6, 9, 255, 256, 1 << 32, math.MaxInt - 1, math.MaxInt}
	for _, b := range [][]byte{nil, {}, {0}, {0, 0}, {0, 0, 0}, {0, 0, 0, 0}, {1, 1, 1, 1, 1}} {
		for _, at := range bound {
			allTake(t, b, at)
		}
	}
	for _, at := range []int{-1, 3, math.MinInt, math.MaxInt} {
		_, n1, e1 := wire.TakeFact(make([]byte, 2), at)
		_, n2, e2 := wire.TakeClause(make([]byte, 2), at)
		_, n3, e3 := wire.TakeRule(make([]byte, 2), at)
		if e1 != api.ErrArg || e2 != api.ErrArg || e3 != api.ErrArg || n1 != 0 || n2 != 0 || n3 != 0 {
			t.Errorf("P6.2: no place of two bytes, %d: %d, %d, %d", at, e1, e2, e3)
		}
	}
}

// One behind the other they are taken one behind the other.
func TestAllOfARow(t *testing.T) {
	c, r := clause(atom(1, x(0)), api.Lit{Not: true, A: atom(2, x(0))}), rule(says(s(1), atom(1, x(0))), api.Cond{S: here(atom(2))})
	b, _ := wire.PutFact([]byte("?"), fact(1, 2, 3))
	b, _ = wire.PutClause(b, c)
	b, _ = wire.PutRule(b, r)
	b, _ = wire.PutFact(b, fact(4))
	f, at, e1 := wire.TakeFact(b, 1)
	d, at, e2 := wire.TakeClause(b, at)
	q, at, e3 := wire.TakeRule(b, at)
	g, at, e4 := wire.TakeFact(b, at)
	if text(f) != text(fact(1, 2, 3)) || text(c) != text(d) || text(r) != text(q) || text(g) != text(fact(4)) || at != len(b) {
		t.Errorf("P6.3: of a row: %v, %v, %v, %v, %d of %d", f, d, q, g, at, len(b))
	}
	if e1 != api.OK || e2 != api.OK || e3 != api.OK || e4 != api.OK {
		t.Errorf("P6.3: of a row: %d, %d, %d, %d", e1, e2, e3, e4)
	}
}

// someThings are from chance, most of them of what may be.
func someThings(chance *rand.Rand) (api.Fact, api.Clause, api.Rule) {
	number := func() uint32 { return numbers[chance.Intn(len(numbers))] }
	term := func() api.Term {
		if chance.Intn(2) == 0 {
			return s(number())
		}
		return x(uint32(chance.Intn(16)) + uint32(chance.Intn(200)/199))
	}
	a := func() api.Atom {
		a := atom(number())
		for range chance.Intn(8) * chance.Intn(9) / 8 {
			a.Args = append(a.Args, term())
		}
		return a
	}
	say := func() api.Say {
		if chance.Intn(2) == 0 {
			return here(a())
		}
		return says(term(), a())
	}
	f, c, r := fact(number()), clause(a()), rule(say())
	for range chance.Intn(8) {
		f.Args = append(f.Args, number())
	}
	for range chance.Intn(10) {
		c.Body = append(c.Body, api.Lit{Not: chance.Intn(2) == 0, A: a()})
		r.Body = append(r.Body, api.Cond{Not: chance.Intn(2) == 0, S: say()})
	}
	return f, c, r
}

func TestByChance(t *testing.T) {
	chance := rand.New(rand.NewSource(6))
	is := map[bool]int{}
	for range 2000 {
		f, c, r := someThings(chance)
		holds(t, facts, f, mayFact(f))
		holds(t, clauses, c, mayClause(c))
		holds(t, rules, r, mayRule(r))
		is[mayRule(r)]++
	}
	if is[true] < 200 || is[false] < 200 {
		t.Errorf("the test itself is wrong: %v", is)
	}
}

func TestNilAndEmpty(t *testing.T) {
	none := atom(1, []api.Term{}...)
	b1, e1 := wire.PutFact([]byte{}, api.Fact{Pred: 1, Args: []uint32{}})
	b2, e2 := wire.PutClause([]byte{}, api.Clause{Head: none, Body: []api.Lit{}})
	b3, e3 := wire.PutRule([]byte{}, api.Rule{Head: here(none), Body: []api.Cond{}})
	if string(b1) != "\x01\x00" || string(b2) != "\x01\x00\x00" || string(b3) != "\x00\x01\x00\x00" || e1 != api.OK || e2 != api.OK || e3 != api.OK {
		t.Errorf("R3: of empty lists: %x, %d; %x, %d; %x, %d", b1, e1, b2, e2, b3, e3)
	}
	if !wire.May(api.Rule{Head: here(none), Body: []api.Cond{}}) || !wire.May(api.Rule{}) {
		t.Error("P6.1: May of a rule of nothing: false")
	}
	f, _, _ := wire.TakeFact(b1, 0)
	c, _, _ := wire.TakeClause(b2, 0)
	r, _, _ := wire.TakeRule(b3, 0)
	if len(f.Args) != 0 || len(c.Head.Args) != 0 || len(c.Body) != 0 || len(r.Head.A.Args) != 0 || len(r.Body) != 0 {
		t.Errorf("P6.2: lists of nothing: %v, %v, %v", f, c, r)
	}
}

// roomy is bytes with room behind them, in which nothing may be written.
func roomy(n int) (b, room []byte) {
	room = bytes.Repeat([]byte{0xaa}, n+1000)
	return room[:n], room
}

// puttingIsNew holds what a put answers apart from what it was handed.
func puttingIsNew[T any](t *testing.T, k kind[T], thing T) {
	t.Helper()
	before := text(thing)
	for _, n := range []int{0, 1, 100} {
		b, room := roomy(n)
		one, _ := k.put(b, thing)
		two, _ := k.put(b, thing)
		want := bytes.Clone(one)
		for i := range two[:cap(two)] {
			two[:cap(two)][i]++
		}
		if !bytes.Equal(one, want) {
			t.Errorf("R3: Put%s answers memory that it answered before", k.name)
		}
		for i := range one[:cap(one)] {
			one[:cap(one)][i]++
		}
		if !bytes.Equal(room, bytes.Repeat([]byte{0xaa}, n+1000)) {
			t.Errorf("R3: Put%s writes into the bytes it was handed, or answers them", k.name)
		}
		if got, e := k.put(b, thing); !bytes.Equal(got, want) || e != api.OK {
			t.Errorf("R5: Put%s again: %x, %d, not %x", k.name, got, e, want)
		}
	}
	if text(thing) != before {
		t.Errorf("R3: Put%s changes what it was handed: %v, not %v", k.name, thing, before)
	}
}

func TestWhatIsPutIsNewMemory(t *testing.T) {
	puttingIsNew(t, facts, fact(1, 2, 300))
	puttingIsNew(t, facts, largestFact())
	puttingIsNew(t, clauses, largestClause())
	puttingIsNew(t, rules, largestRule())
	puttingIsNew(t, rules, api.Rule{})
}

// spoil changes all of what was taken, the room behind each list too.
func spoilAtom(a api.Atom) {
	for i := range a.Args[:cap(a.Args)] {
		a.Args[:cap(a.Args)][i] = x(99)
	}
}

func spoilFact(f api.Fact) {
	for i := range f.Args[:cap(f.Args)] {
		f.Args[:cap(f.Args)][i]++
	}
}

func spoilClause(c api.Clause) {
	spoilAtom(c.Head)
	for i := range c.Body[:cap(c.Body)] {
		spoilAtom(c.Body[:cap(c.Body)][i].A)
		c.Body[:cap(c.Body)][i] = api.Lit{Not: true}
	}
}

func spoilRule(r api.Rule) {
	spoilAtom(r.Head.A)
	for i := range r.Body[:cap(r.Body)] {
		spoilAtom(r.Body[:cap(r.Body)][i].S.A)
		r.Body[:cap(r.Body)][i] = api.Cond{Not: true}
	}
}

// takingIsNew holds what a take answers apart from its bytes and from what it answered before.
func takingIsNew[T any](t *testing.T, k kind[T], thing T, spoil func(T)) {
	t.Helper()
	b := k.bytes(thing)
	one, _, _ := k.take(b, 0)
	two, _, _ := k.take(b, 0)
	spoil(two)
	if text(one) != text(thing) {
		t.Errorf("R3: Take%s answers memory that it answered before: %v, not %v", k.name, one, thing)
	}
	if !bytes.Equal(b, k.bytes(thing)) {
		t.Errorf("R3: Take%s answers memory of its bytes", k.name)
	}
	clear(b)
	if text(one) != text(thing) {
		t.Errorf("R3: Take%s keeps its bytes: %v, not %v", k.name, one, thing)
	}
}

func TestWhatIsTakenIsNewMemory(t *testing.T) {
	takingIsNew(t, facts, largestFact(), spoilFact)
	takingIsNew(t, clauses, largestClause(), spoilClause)
	takingIsNew(t, rules, largestRule(), spoilRule)
}

// Each list of what is taken is its own: a longer head does not run into the body.
func TestEachListIsItsOwn(t *testing.T) {
	c := clause(atom(1, s(1), s(2), s(3)), api.Lit{A: atom(2, s(4), s(5), s(6))}, api.Lit{A: atom(3, s(7))}, api.Lit{A: atom(4)})
	for place := -1; place < 3; place++ {
		got, _, _ := wire.TakeClause(clauses.bytes(c), 0)
		want := text(got)
		a := inClause(&got, place)
		args := append(a.Args, s(8), s(9))
		for i := range args {
			args[i] = s(0)
		}
		other, _, _ := wire.TakeClause(clauses.bytes(c), 0)
		*a = *inClause(&other, place)
		if text(got) != want {
			t.Errorf("R3: the list at %d is another one's too: %v, not %v", place, got, want)
		}
	}
}

// May looks at what it is handed alone, and leaves it as it was.
func TestMayChangesNothing(t *testing.T) {
	for _, r := range []api.Rule{largestRule(), {}, {Body: make([]api.Cond, 100000)}, rule(here(atom(1, make([]api.Term, 100000)...)))} {
		before := text(r)
		one := wire.May(r)
		if wire.May(r) != one || one != mayRule(r) {
			t.Errorf("R5: May of one rule, again: %v", !one)
		}
		if text(r) != before {
			t.Error("R3: May changes its rule")
		}
	}
}

func FuzzAsTold(f *testing.F) {
	f.Add(facts.bytes(largestFact()), 0)
	f.Add(clauses.bytes(largestClause()), 0)
	f.Add(rules.bytes(largestRule()), 0)
	f.Add(append([]byte("?"), rules.bytes(rule(says(x(1), atom(1, x(0))), api.Cond{S: says(s(3), atom(2, x(0)))}))...), 1)
	f.Add([]byte{}, -1)
	f.Fuzz(func(t *testing.T, b []byte, at int) {
		allTake(t, b, at)
		for at := range min(len(b), 8) {
			allTake(t, b, at)
		}
	})
}
