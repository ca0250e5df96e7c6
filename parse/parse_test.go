package parse_test

import (
	"fmt"
	"math"
	"math/rand"
	"reflect"
	"regexp"
	"slices"
	"sort"
	"strings"
	"testing"
	"unsafe"

	"bailey/api"
	"bailey/lex"
	"bailey/parse"
	"bailey/syms"
	"bailey/wire"
)

// The limits are the document's.
const (
	maxArity = 6
	maxBody  = 8
	maxVars  = 16
	maxSyms  = 4096
	most     = 65536
)

// letters has one for each kind of words, by its number.
const letters = "?NVns(),.:"

// say and policy are what the document says of words, told in another way than the program tells it.
const say = `(?:[NV]s)?N(?:\([NV](?:,[NV])*\))?`

var policy = regexp.MustCompile(`\A(?:` + say + `(?::n?` + say + `(?:,n?` + say + `)*)?\.)*\z`)

// ends are what a policy may end with behind words that can go on one: so those that can't can't end with any.
var ends = []string{"", ".", ").", "N.", "N).", "sN."}

// asked remembers what was said of short lists of words, which come often.
var asked = map[string]bool{}

// canStand: can words of these kinds go on a policy, one behind the other from its beginning?
func canStand(kinds string) bool {
	if is, was := asked[kinds]; was {
		return is
	}
	is := slices.ContainsFunc(ends, func(end string) bool { return policy.MatchString(kinds + end) })
	if len(kinds) <= 12 {
		asked[kinds] = is
	}
	return is
}

// stray is how many words can go on a policy, one behind the other; more than there are, if all do and it is whole.
func stray(words []lex.Word) int {
	var kinds strings.Builder
	for _, w := range words {
		kinds.WriteByte(letters[w.Kind])
	}
	n := sort.Search(len(words), func(n int) bool { return !canStand(kinds.String()[:n+1]) })
	if n == len(words) && policy.MatchString(kinds.String()) {
		return n + 1
	}
	return n
}

// excess is how many words there are ahead of the first one that is, or begins, what is too much.
func excess(words []lex.Word, names []string) int {
	var terms, conds int
	inside, begins := false, false
	vars, fresh, had := map[string]bool{}, map[string]bool{}, map[string]bool{}
	for _, name := range names {
		had[name] = true
	}
	for i, w := range words {
		if begins {
			conds++
		}
		begins = w.Kind == lex.If || w.Kind == lex.Comma && !inside
		switch w.Kind {
		case lex.Stop:
			conds, vars = 0, map[string]bool{}
		case lex.Open, lex.Shut:
			terms, inside = 0, w.Kind == lex.Open
		case lex.Name, lex.Var:
			if inside {
				terms++
			}
			if w.Kind == lex.Var {
				vars[w.Text] = true
			} else if !had[w.Text] {
				fresh[w.Text] = true
			}
		}
		if terms > maxArity || conds > maxBody || len(vars) > maxVars || len(names)+len(fresh) > maxSyms {
			return i
		}
	}
	return len(words)
}

// scribe tells rules of a text that is right, by cutting it.
type scribe struct {
	names []string
	vars  []string
}

// index is a text's place in a list, in which it is from now on.
func index(l *[]string, text string) uint32 {
	i := slices.Index(*l, text)
	if i < 0 {
		i = len(*l)
		*l = append(*l, text)
	}
	return uint32(i)
}

func (s *scribe) term(text string) api.Term {
	text = strings.TrimSpace(text)
	if 'A' <= text[0] && text[0] <= 'Z' {
		return api.Term{Var: true, N: index(&s.vars, text)}
	}
	return api.Term{N: index(&s.names, text)}
}

func (s *scribe) say(text string) (c api.Say) {
	who, what, said := strings.Cut(text, " says ")
	if said {
		c.Said, c.Who = true, s.term(who)
	} else {
		what = text
	}
	name, args, has := strings.Cut(strings.TrimSuffix(strings.TrimSpace(what), ")"), "(")
	c.A.Pred = s.term(name).N
	if has {
		for _, arg := range strings.Split(args, ",") {
			c.A.Args = append(c.A.Args, s.term(arg))
		}
	}
	return c
}

// apart are what stands between commas, but not in brackets.
var apart = regexp.MustCompile(`(?:[^,(]|\([^)]*\))+`)

func (s *scribe) rule(text string) (r api.Rule) {
	s.vars = nil
	head, body, has := strings.Cut(text, ":-")
	r.Head = s.say(head)
	if !has {
		return r
	}
	for _, one := range apart.FindAllString(body, -1) {
		what, not := strings.CutPrefix(strings.TrimSpace(one), "not ")
		r.Body = append(r.Body, api.Cond{Not: not, S: s.say(what)})
	}
	return r
}

// told is what the document tells of a text, and which names there are then.
func told(names []string, text string) (l []api.Rule, at int, e api.Errno, then []string) {
	words, at, e := lex.Words(text)
	if e != api.OK {
		return nil, at, e, names
	}
	n, m := stray(words), excess(words, names)
	if n <= m && n < len(words) {
		return nil, words[n].At, api.ErrBytes, names
	}
	if m < len(words) {
		return nil, words[m].At, api.ErrMany, names
	}
	if n == len(words) {
		return nil, len(text), api.ErrBytes, names
	}
	s := scribe{names: slices.Clone(names)}
	for _, one := range strings.SplitAfter(lex.Join(words), ".") {
		if one != "" {
			l = append(l, s.rule(strings.TrimSuffix(one, ".")))
		}
	}
	return l, 0, api.OK, s.names
}

// plain has no empty list that is not nil: they are the same.
func plain(l []api.Rule) (c []api.Rule) {
	for _, r := range l {
		r = api.Rule{Head: plainSay(r.Head), Body: append([]api.Cond(nil), r.Body...)}
		for i := range r.Body {
			r.Body[i].S = plainSay(r.Body[i].S)
		}
		c = append(c, r)
	}
	return c
}

func plainSay(s api.Say) api.Say {
	s.A.Args = append([]api.Term(nil), s.A.Args...)
	return s
}

func same(a, b []api.Rule) bool { return reflect.DeepEqual(plain(a), plain(b)) }

// tableOf is the table of names.
func tableOf(t testing.TB, names []string) *syms.Table {
	t.Helper()
	u, e := syms.Of(names)
	if e != api.OK {
		t.Fatalf("the test itself is wrong: %d", e)
	}
	return u
}

// asTold holds Parse of a text against the document, and answers its rules, and the table then.
func asTold(t *testing.T, names []string, text string) ([]api.Rule, *syms.Table) {
	t.Helper()
	u := tableOf(t, names)
	wantL, wantAt, wantE, then := told(names, text)
	l, at, e := parse.Parse(u, text)
	if !same(l, wantL) || at != wantAt || e != wantE {
		t.Errorf("P8.1: Parse of %s: %v, %d, %d, not %v, %d, %d", short(text), l, at, e, wantL, wantAt, wantE)
	}
	if !slices.Equal(u.List(), then) {
		t.Errorf("P8.1: Parse of %s: names %s, not %s", short(text), short(strings.Join(u.List(), " ")), short(strings.Join(then, " ")))
	}
	return l, u
}

// short is a text as it may be told when something is wrong.
func short(text string) string {
	if len(text) > 300 {
		return fmt.Sprintf("%q.. (%d bytes)", text[:300], len(text))
	}
	return fmt.Sprintf("%q", text)
}

// fails says that a text has no rules, by which error, and at which place; then no name of it is put.
func fails(t *testing.T, names []string, text string, at int, e api.Errno) {
	t.Helper()
	u := tableOf(t, names)
	if l, gotAt, gotE := parse.Parse(u, text); len(l) != 0 || gotAt != at || gotE != e {
		t.Errorf("P8.1: Parse of %s: %v, %d, %d, not at %d, %d", short(text), l, gotAt, gotE, at, e)
	}
	if !slices.Equal(u.List(), names) {
		t.Errorf("P8.1: Parse of %s, which fails: names %s", short(text), short(strings.Join(u.List(), " ")))
	}
	asTold(t, names, text)
}

// has says what all rules of a text are, and which names there are then.
func has(t *testing.T, names []string, text string, then []string, want ...api.Rule) {
	t.Helper()
	u := tableOf(t, names)
	if l, at, e := parse.Parse(u, text); !same(l, want) || at != 0 || e != api.OK {
		t.Errorf("P8.1: Parse of %s: %v, %d, %d, not %v", short(text), l, at, e, want)
	}
	if !slices.Equal(u.List(), then) {
		t.Errorf("P8.1: Parse of %s: names %q, not %q", short(text), u.List(), then)
	}
	asTold(t, names, text)
}

// prints says what rules are as a text, or by which error they are none.
func prints(t *testing.T, names []string, l []api.Rule, want string, e api.Errno) {
	t.Helper()
	u := tableOf(t, names)
	if got, gotE := parse.Print(u, l); got != want || gotE != e {
		t.Errorf("P8.2: Print of %v: %s, %d, not %s, %d", l, short(got), gotE, short(want), e)
	}
	if !slices.Equal(u.List(), names) {
		t.Errorf("P8.2: Print of %v puts names: %q", l, u.List())
	}
}

func v(n uint32) api.Term { return api.Term{Var: true, N: n} }
func s(n uint32) api.Term { return api.Term{N: n} }

// here and by are an atom as it is so here, and as somebody says it.
func here(pred uint32, l ...api.Term) api.Say { return api.Say{A: api.Atom{Pred: pred, Args: l}} }
func by(who api.Term, pred uint32, l ...api.Term) api.Say {
	return api.Say{Said: true, Who: who, A: api.Atom{Pred: pred, Args: l}}
}

func so(s api.Say) api.Cond    { return api.Cond{S: s} }
func notSo(s api.Say) api.Cond { return api.Cond{Not: true, S: s} }

func rule(head api.Say, body ...api.Cond) api.Rule { return api.Rule{Head: head, Body: body} }

// many are the texts of numbers below n, with a word ahead of each and a text between each two.
func many(ahead string, from, n int, between string) string {
	var l []string
	for i := range n {
		l = append(l, fmt.Sprint(ahead, from+i))
	}
	return strings.Join(l, between)
}

// someNames are so many, all unlike.
func someNames(n int) []string {
	if n == 0 {
		return nil
	}
	return strings.Split(many("n", 0, n, " "), " ")
}

func TestTheDocumentsExamples(t *testing.T) {
	example := rule(here(0, v(0)), so(by(s(1), 2, v(0), s(3))), notSo(here(4)))
	names := []string{"p", "a", "q", "b", "r"}
	has(t, nil, "p(X) :- a says q(X, b), not r.", names, example)
	prints(t, names, []api.Rule{example}, "p(X0) :- a says q(X0, b), not r.\n", api.OK)
	fails(t, nil, "p(", 2, api.ErrBytes)
	fails(t, nil, "p() .", 2, api.ErrBytes)
	fails(t, nil, "P.", 1, api.ErrBytes)
	fails(t, nil, "p :- .", 5, api.ErrBytes)
}

func TestEachFormOfARule(t *testing.T) {
	pq := []string{"p", "q"}
	has(t, nil, "", nil)
	has(t, nil, " \n% p(\n", nil)
	has(t, nil, "p.", pq[:1], rule(here(0)))
	has(t, nil, "p(q).", pq, rule(here(0, s(1))))
	has(t, nil, "p(X).", pq[:1], rule(here(0, v(0))))
	has(t, nil, "p says p.", pq[:1], rule(by(s(0), 0)))
	has(t, nil, "p says q(p).", pq, rule(by(s(0), 1, s(0))))
	has(t, nil, "X says p.", pq[:1], rule(by(v(0), 0)))
	has(t, nil, "X says p(Y,X).", pq[:1], rule(by(v(0), 0, v(1), v(0))))
	has(t, nil, "p:-q.", pq, rule(here(0), so(here(1))))
	has(t, nil, "p:-not q.", pq, rule(here(0), notSo(here(1))))
	has(t, nil, "p:-X says q.", pq, rule(here(0), so(by(v(0), 1))))
	has(t, nil, "p:-not X says q.", pq, rule(here(0), notSo(by(v(0), 1))))
	has(t, nil, "p:-not q says q(q,X,q).", pq, rule(here(0), notSo(by(s(1), 1, s(1), v(0), s(1)))))
	has(t, nil, "X says p:-not q,q,not X says q,p.", pq, rule(by(v(0), 0), notSo(here(1)), so(here(1)), notSo(by(v(0), 1)), so(here(0))))
	has(t, nil, "p.q.p.", pq, rule(here(0)), rule(here(1)), rule(here(0)))
	has(t, nil, "p%\n(%)\nX\t,\r\nq\n)\n:-\nX\nsays\nq\n,\nnot%q\nq\n.", pq, rule(here(0, v(0), s(1)), so(by(v(0), 1)), notSo(here(1))))
}

// Names have the numbers of the table, and those that it has not the next ones, as they come; variables have those of their rule, and are not put.
func TestNumbers(t *testing.T) {
	has(t, nil, "z says y(x) :- w says v(u), not t.s.", strings.Fields("z y x w v u t s"),
		rule(by(s(0), 1, s(2)), so(by(s(3), 4, s(5))), notSo(here(6))), rule(here(7)))
	has(t, []string{"b", "Q", "not"}, "a(b) :- b says c(a).", []string{"b", "Q", "not", "a", "c"}, rule(here(3, s(0)), so(by(s(0), 4, s(3)))))
	has(t, []string{"X", "says"}, "p(X).", []string{"X", "says", "p"}, rule(here(2, v(0))))
	has(t, nil, "p(Y,X,Y).q(X,Y).", []string{"p", "q"}, rule(here(0, v(0), v(1), v(0))), rule(here(1, v(0), v(1))))
	has(t, nil, "Z says p(X1,X0) :- X0 says p(Z,X), X says p.", []string{"p"},
		rule(by(v(0), 0, v(1), v(2)), so(by(v(2), 0, v(0), v(3))), so(by(v(3), 0))))
	has(t, nil, "0(1,_,NOT,Says,nOt,not_).", []string{"0", "1", "_", "nOt", "not_"}, rule(here(0, s(1), s(2), v(0), v(1), s(3), s(4))))
	has(t, nil, "p(x,X,XX,Xx,xX).", []string{"p", "x", "xX"}, rule(here(0, s(1), v(0), v(1), v(2), s(2))))
}

// Every way that words may go on, and each one by which they can't, as it ends the text and as more stands behind it.
func TestEveryFirstStrayWord(t *testing.T) {
	words := []string{"a", "X", "not", "says", "(", ")", ",", ".", ":-"}
	whole, halves := 0, 0
	var behind func(text string, n int)
	behind = func(text string, n int) {
		_, _, e, _ := told(nil, text)
		asTold(t, nil, text)
		if e == api.OK {
			whole++
		} else {
			asTold(t, nil, text+"% ")
			asTold(t, nil, text+" . b(X).")
			halves++
		}
		read, _, _ := lex.Words(text)
		if n == 0 || stray(read) < len(read) {
			return
		}
		for _, w := range words {
			behind(text+w+" ", n-1)
		}
	}
	behind("", 11)
	if whole < 1000 || halves < 10000 {
		t.Errorf("the test itself is wrong: %d texts are right, %d are not", whole, halves)
	}
}

func TestStrayWords(t *testing.T) {
	for text, at := range map[string]int{
		"p": 1, "p ": 2, "p %.": 4, "p(": 2, "p(\n": 3, "p(a": 3, "p(a)": 4, "p(a,": 4, "p:-": 3, "p:-q": 4, "p:-q,": 5, "p:-not": 6, "a says": 6, "X": 1, "p. q": 4, "p.q.r % .\n": 10,
		"p q.": 2, "p X.": 2, "p(a b).": 4, "p(a)(b).": 4, "p(a).)": 5, "p((a)).": 2, "p(a(b)).": 3, "p(a,).": 4, "p(,a).": 2, "p(not).": 2, "p(a says b).": 4, "p(:-).": 2, "p(a.": 3,
		".": 0, "p..": 2, ",": 0, "(": 0, ")": 0, ":-": 0, "says": 0, "says p.": 0, "not p.": 0, "not": 0,
		"P.": 1, "X(a).": 1, "X:-p.": 1, "X says X.": 7, "X says X says p.": 7, "a says X(b).": 7, "a says b says c.": 9, "a says not b.": 7, "a says (b).": 7, "a not says b.": 2,
		"p:-.": 3, "p:-,q.": 3, "p:-q,.": 5, "p:-q,,r.": 5, "p:-q r.": 5, "p:-q:-r.": 4, "p:-not not q.": 7, "p:-a says not q.": 10, "p:-X.": 4, "p:-not X.": 8, "p:-X,q.": 4, "p:-(q).": 3, "p:-q(a,b.": 8, "p:-q).": 4,
		"p,q.": 1, "p,q:-r.": 1, "p:-a says X.": 10, "p. X. q(": 4, "p. ) q ) ": 3,
	} {
		fails(t, nil, text, at, api.ErrBytes)
		fails(t, []string{"p", "a", "b", "q"}, text, at, api.ErrBytes)
	}
}

// What lex has against a text goes ahead of all that is wrong in its words.
func TestWhatLexHasAgainstIt(t *testing.T) {
	fails(t, nil, "p. ?", 3, api.ErrBytes)
	fails(t, nil, "not p. ?", 7, api.ErrBytes)
	fails(t, nil, "p( ) :", 5, api.ErrBytes)
	fails(t, nil, "p(a,b,c,d,e,f,g). ?", 18, api.ErrBytes)
	fails(t, nil, "p "+strings.Repeat("x", 33), 2, api.ErrBytes)
	fails(t, someNames(maxSyms), "p. ?", 3, api.ErrBytes)
	for _, text := range []string{"p", ".", "?", " "} {
		fails(t, nil, strings.Repeat(text, most+1), 0, api.ErrMany)
	}
}

func TestTermsOfAnAtom(t *testing.T) {
	for _, ahead := range []string{"p", "a says p", "X says p", "p:-q", "p:-not q", "p(a):-X says q", "p:-q(a,b,c,d,e,f),q", "p(a,b,c,d,e,f).q"} {
		for _, one := range []string{"a", "A"} {
			for n := 1; n <= 2*maxArity; n++ {
				text := ahead + "(" + many(one, 0, n, ",") + ")."
				if n <= maxArity {
					if l, _ := asTold(t, nil, text); len(l) == 0 {
						t.Errorf("R7: Parse of %q: no rules", text)
					}
					continue
				}
				fails(t, nil, text, len(ahead)+3*maxArity+1, api.ErrMany)
			}
		}
	}
	six := "p(a,b,c,d,e,f"
	for text, at := range map[string]int{six + ",g": 14, six + ",g)": 14, six + ",X": 14, six + ", % g\n g": 20, six + ",a": 14, six + ",g,h).": 14, six + ",g not": 14, six + ",g ) q": 14} {
		fails(t, nil, text, at, api.ErrMany)
	}
	for text, at := range map[string]int{six: 13, six + ",": 14, six + ",.": 14, six + ",)": 14, six + ",,g": 14, six + ",not": 14, six + ",says": 14, six + "(g": 13, six + " g).": 14, six + ").)": 15} {
		fails(t, nil, text, at, api.ErrBytes)
	}
}

func TestConditionsOfARule(t *testing.T) {
	for _, one := range []string{"q", "not q", "a says q", "not a says q", "X says q", "q(a,b,c,d,e,f)"} {
		for n := 1; n <= 2*maxBody; n++ {
			text := "p:-" + strings.TrimSuffix(strings.Repeat(one+",", n), ",") + "."
			if n <= maxBody {
				if l, _ := asTold(t, nil, text); len(l) != 1 || len(l[0].Body) != n {
					t.Errorf("R7: Parse of %q: %v", text, l)
				}
				continue
			}
			fails(t, nil, text, 3+maxBody*(len(one)+1), api.ErrMany)
		}
	}
	eight := "p:-" + strings.Repeat("q,", maxBody-1) + "q"
	for _, text := range []string{",q", ",q.", ",not", ",not not", ",not .", ",X", ",X.", ",a says b says c.", ",q(", ",q q", ",z"} {
		fails(t, nil, eight+text, len(eight)+1, api.ErrMany)
	}
	for _, text := range []string{",.", ",,q", ",says q", ",(", ",)", ",:-", ","} {
		fails(t, nil, eight+text, len(eight)+1, api.ErrBytes)
	}
	has(t, nil, eight+"."+eight+".", []string{"p", "q"}, slices.Repeat([]api.Rule{rule(here(0), slices.Repeat([]api.Cond{so(here(1))}, maxBody)...)}, 2)...)
}

func TestVariablesOfARule(t *testing.T) {
	sixteen := "p(" + many("A", 10, 6, ",") + "):-q(" + many("A", 16, 6, ",") + "),q(" + many("A", 22, 4, ",")
	if l, _ := asTold(t, nil, sixteen+")."); len(l) != 1 {
		t.Errorf("R7: Parse of %q: %v", sixteen+").", l)
	}
	for text, at := range map[string]int{
		sixteen + ",Z).": len(sixteen) + 1, sixteen + ",A10,Z).": len(sixteen) + 5, sixteen + ",A26": len(sixteen) + 1, sixteen + "),Z": len(sixteen) + 2, sixteen + "),Z.": len(sixteen) + 2,
		sixteen + "),not Z says p.": len(sixteen) + 6, sixteen + "),A10 says p(Z).": len(sixteen) + 13, sixteen + ",a,Z": len(sixteen) + 3, sixteen + ",a10,a11,Z": len(sixteen) + 9,
	} {
		fails(t, nil, text, at, api.ErrMany)
	}
	for _, text := range []string{sixteen + ",A10,A25).", sixteen + "),A25 says p(A10).", sixteen + "). p(Z).", sixteen + ")." + strings.ReplaceAll(sixteen, "A", "B") + ").", sixteen + "),z,a10 says z26."} {
		if l, _ := asTold(t, nil, text); len(l) == 0 {
			t.Errorf("P8.1: Parse of %q: no rules", text)
		}
	}
	fails(t, nil, sixteen+") Z", len(sixteen)+2, api.ErrBytes)
	fails(t, nil, sixteen+"). "+sixteen+",Z).", 2*len(sixteen)+4, api.ErrMany)
	fails(t, nil, "Z says "+sixteen, len("Z says ")+len(sixteen)-3, api.ErrMany)
}

// Names that the table has not are too much once there is no room for them, wherever they stand; those that it has are not.
func TestRoomForNames(t *testing.T) {
	for had := maxSyms - 4; had <= maxSyms; had++ {
		names := someNames(had)
		for fresh := range 7 {
			for _, c := range []struct{ ahead, between, behind string }{{"n0(", ",", ")."}, {"", ".", "."}, {"", " says n1.", " says n2."}, {"n0(n1,X):-not n1,", ",", "."}, {"n3 says ", ".n3 says ", "(X)."}} {
				text := c.ahead + many("x", 0, fresh, c.between) + c.behind
				if had+fresh <= maxSyms || fresh == 0 {
					asTold(t, names, text)
					continue
				}
				room := maxSyms - had
				fails(t, names, text, len(c.ahead)+room*(2+len(c.between)), api.ErrMany)
			}
		}
	}
	full := someNames(maxSyms)
	has(t, full, "n0(n1,X,n4095):-n4 says n5.", full, rule(here(0, s(1), v(0), s(4095)), so(by(s(4), 5))))
	has(t, full[1:], "n0.n0(n0).", slices.Concat(full[1:], []string{"n0"}), rule(here(4095)), rule(here(4095, s(4095))))
	has(t, full, "", full)
	fails(t, full[1:], "n0.n0(n0):-n1,n4097.", 14, api.ErrMany)
	fails(t, full, "x", 0, api.ErrMany)
	fails(t, full, "n0(not x", 3, api.ErrBytes)
	fails(t, full, "n0 x", 3, api.ErrBytes)
	fails(t, full, "x not", 0, api.ErrMany)
	fails(t, full, "n0 n1 x", 3, api.ErrBytes)
	fails(t, full, "X x", 2, api.ErrBytes)
	has(t, slices.Concat(full[2:], []string{"X"}), "x(X).", slices.Concat(full[2:], []string{"X", "x"}), rule(here(4095, v(0))))
}

// A text alone may have more names than a table.
func TestMoreNamesThanATableHas(t *testing.T) {
	right := many("x", 1000, maxSyms, ".") + "."
	l, u := asTold(t, nil, right)
	if len(l) != maxSyms || u.Len() != maxSyms {
		t.Errorf("R7: Parse of %s: %d rules, %d names", short(right), len(l), u.Len())
	}
	fails(t, nil, right+right+"y.", 2*len(right), api.ErrMany)
	fails(t, nil, right+right+"y", 2*len(right), api.ErrMany)
	fails(t, nil, right+right+"x1000 y", 2*len(right)+6, api.ErrBytes)
	fails(t, []string{"x1000", "z"}, right, len(right)-6, api.ErrMany)
}

// The first thing that is wrong is told, whichever it is.
func TestWhatIsWrongFirst(t *testing.T) {
	full := someNames(maxSyms)
	seven, nine := "(n1,n2,n3,n4,n5,n6,n7)", ":-"+strings.Repeat("n1,", maxBody)+"n2"
	fails(t, full, "n0"+seven+nine+" x ) )", 21, api.ErrMany)
	fails(t, full, "n0"+nine+seven+".", 28, api.ErrMany)
	fails(t, full, "n0(x"+seven, 3, api.ErrMany)
	fails(t, full, "n0:-not x not", 8, api.ErrMany)
	fails(t, full, "n0 not"+seven, 3, api.ErrBytes)
	fails(t, full, "n0(,x"+seven, 3, api.ErrBytes)
	fails(t, full, "n0. X. x.", 5, api.ErrBytes)
	fails(t, full, "n0. x. X.", 4, api.ErrMany)
	fails(t, nil, "p. q(a,b,c,d,e,f,g). r(", 17, api.ErrMany)
	fails(t, nil, "p. r( q(a,b,c,d,e,f,g).", 7, api.ErrBytes)
}

func TestTheLongestText(t *testing.T) {
	for _, text := range []string{
		strings.Repeat("p.", most/2), strings.Repeat(" ", most), "%" + strings.Repeat("(", most-1), strings.Repeat("p(X):-q.", most/8), strings.Repeat(" ", most-2) + "p.",
		strings.Repeat("X says p:-not Y says q(a,b).%r.\n", most/32),
	} {
		if len(text) != most {
			t.Fatalf("the test itself is wrong: %d bytes", len(text))
		}
		if _, _, e := parse.Parse(syms.New(), text); e != api.OK {
			t.Errorf("R7: Parse of %s: %d", short(text), e)
		}
		asTold(t, nil, text)
		fails(t, nil, text+" ", 0, api.ErrMany)
	}
	fails(t, nil, strings.Repeat("p.", most/2-1)+"p ", most, api.ErrBytes)
	fails(t, nil, strings.Repeat("p.", most/2-1)+" )", most-1, api.ErrBytes)
	fails(t, nil, strings.Repeat("(", most), 0, api.ErrBytes)
	fails(t, nil, "p("+strings.Repeat("(", most-2), 2, api.ErrBytes)
	fails(t, nil, "p("+strings.Repeat("a,", most/2-1), 14, api.ErrMany)
	fails(t, nil, "p:-"+strings.Repeat("q,", most/2-2), 19, api.ErrMany)
}

func TestNoTable(t *testing.T) {
	for _, text := range []string{"", "p.", "p(", "?", strings.Repeat(" ", most+1)} {
		if l, at, e := parse.Parse(nil, text); len(l) != 0 || at != 0 || e != api.ErrNil {
			t.Errorf("P8.1: Parse of no table and %s: %v, %d, %d", short(text), l, at, e)
		}
	}
	for _, l := range [][]api.Rule{nil, {{}}, {rule(here(0, v(99)))}} {
		if text, e := parse.Print(nil, l); text != "" || e != api.ErrNil {
			t.Errorf("P8.2: Print of no table and %v: %q, %d", l, text, e)
		}
	}
	var u syms.Table // one that did not come of New
	if l, at, e := parse.Parse(&u, "p(q)."); !same(l, []api.Rule{rule(here(0, s(1)))}) || at != 0 || e != api.OK || u.Len() != 2 {
		t.Errorf("P8.1: Parse of a table that did not come of New: %v, %d, %d", l, at, e)
	}
}

// What a text puts is there for the next one; what fails puts nothing of it.
func TestOneTextBehindTheOther(t *testing.T) {
	u := syms.New()
	for _, c := range []struct {
		text  string
		e     api.Errno
		names string
	}{
		{"b(a).", api.OK, "b a"}, {"c(d,e", api.ErrBytes, "b a"}, {"x(a,b,c,d,e,f,g).", api.ErrMany, "b a"}, {"y. z. ?", api.ErrBytes, "b a"},
		{"a:-not c,b.", api.OK, "b a c"}, {"e says d(X).", api.OK, "b a c e d"}, {"a(b,c,d,e).", api.OK, "b a c e d"},
	} {
		for range 2 {
			if _, _, e := parse.Parse(u, c.text); e != c.e || strings.Join(u.List(), " ") != c.names {
				t.Errorf("P8.1: Parse of %q: %d, names %q", c.text, e, u.List())
			}
		}
	}
}

func TestPrintOfEachForm(t *testing.T) {
	names := []string{"p", "a", "0_Z"}
	prints(t, names, nil, "", api.OK)
	prints(t, nil, []api.Rule{}, "", api.OK)
	for want, r := range map[string]api.Rule{
		"p.\n":                        rule(here(0)),
		"0_Z.\n":                      {Head: api.Say{A: api.Atom{Pred: 2, Args: []api.Term{}}}, Body: []api.Cond{}},
		"p(a).\n":                     rule(here(0, s(1))),
		"p(X0).\n":                    rule(here(0, v(0))),
		"p(X15, X9, X10).\n":          rule(here(0, v(15), v(9), v(10))),
		"p(a, X1, p, 0_Z, X1, X0).\n": rule(here(0, s(1), v(1), s(0), s(2), v(1), v(0))),
		"a says p.\n":                 rule(by(s(1), 0)),
		"p says p(p).\n":              rule(by(s(0), 0, s(0))),
		"X7 says p(a, X7).\n":         rule(by(v(7), 0, s(1), v(7))),
		"p :- a.\n":                   rule(here(0), so(here(1))),
		"p :- not a.\n":               rule(here(0), notSo(here(1))),
		"p :- not X15 says a.\n":      rule(here(0), notSo(by(v(15), 1))),
		"a says p(X0) :- X0 says a(p), not p, p.\n": rule(by(s(1), 0, v(0)), so(by(v(0), 1, s(0))), notSo(here(0)), so(here(0))),
		"p :- a, a, a, a, a, a, a, a.\n":            rule(here(0), slices.Repeat([]api.Cond{so(here(1))}, maxBody)...),
	} {
		prints(t, names, []api.Rule{r}, want, api.OK)
		prints(t, names, []api.Rule{r, rule(here(1)), r}, want+"a.\n"+want, api.OK)
	}
}

// The number of each place of a rule must have a name, which is a Name as a word.
func TestPrintOfNumbersWithoutAName(t *testing.T) {
	names := []string{"p", "not", "says", "Q", "X0", "Not", "NOT", "A_1"}
	for _, n := range []uint32{1, 2, 3, 4, 5, 6, 7, 8, 9, maxSyms, 1 << 31, math.MaxUint32} {
		for _, r := range []api.Rule{
			rule(here(n)), rule(here(0, s(n))), rule(here(0, v(0), s(0), s(n))), rule(here(0, s(0), s(0), s(0), s(0), s(0), s(n))), rule(by(s(n), 0)), rule(by(s(0), n)), rule(by(v(0), 0, s(n))),
			rule(here(0), so(here(n))), rule(here(0), notSo(here(n))), rule(here(0), so(here(0)), so(here(0, s(n)))), rule(here(0), notSo(by(s(n), 0))), rule(here(0), so(by(v(0), n))),
			rule(here(0), append(slices.Repeat([]api.Cond{so(here(0))}, maxBody-1), so(by(s(0), 0, v(1), s(n))))...),
		} {
			prints(t, names, []api.Rule{r}, "", api.ErrNone)
			prints(t, names, []api.Rule{rule(here(0)), r, rule(here(0))}, "", api.ErrNone)
		}
	}
	prints(t, nil, []api.Rule{rule(here(0))}, "", api.ErrNone)
	prints(t, names[1:], []api.Rule{rule(here(0))}, "", api.ErrNone)
	prints(t, []string{"no", "nott", "not_", "_not", "nOt", "say", "sayS", "9", "_"}, []api.Rule{rule(here(0, s(1), s(2), s(3))), rule(here(4, s(5), s(6), s(7), s(8)))}, "no(nott, not_, _not).\nnOt(say, sayS, 9, _).\n", api.OK)
}

// Nobody is no number of a rule: what nobody says has the symbol 0 there, whatever its name is.
func TestPrintOfWhatNobodySays(t *testing.T) {
	names := []string{"Q", "p"}
	prints(t, names, []api.Rule{rule(here(1), so(here(1)))}, "p :- p.\n", api.OK)
	prints(t, names, []api.Rule{rule(by(s(0), 1))}, "", api.ErrNone)
	has(t, []string{"Q"}, "p:-not p.", names, rule(here(1), notSo(here(1))))
}

// mayNot are rules that may not be, all of whose numbers have names.
func mayNot() []api.Rule {
	nobody := here(0)
	nobody.Who = s(1)
	nobodys := here(0)
	nobodys.Who = v(0)
	l := []api.Rule{
		rule(here(0, v(maxVars))), rule(here(0, v(math.MaxUint32))), rule(here(0, slices.Repeat([]api.Term{s(0)}, maxArity+1)...)), rule(by(v(maxVars), 0)), rule(nobody), rule(nobodys),
		rule(here(0), slices.Repeat([]api.Cond{so(here(0))}, maxBody+1)...), rule(here(0), slices.Repeat([]api.Cond{so(here(0))}, 1000)...),
	}
	for _, r := range l[:6] {
		l = append(l, rule(here(0), so(r.Head)), rule(here(0), so(here(0)), notSo(r.Head)))
	}
	return l
}

func TestPrintOfWhatMayNotBe(t *testing.T) {
	names := []string{"p", "a", "Q"}
	none, right := rule(here(2)), rule(here(0))
	for _, r := range mayNot() {
		if wire.May(r) {
			t.Fatalf("the test itself is wrong: %v may be", r)
		}
		prints(t, names, []api.Rule{r}, "", api.ErrForm)
		prints(t, names, []api.Rule{right, r, right}, "", api.ErrForm)
		prints(t, names, []api.Rule{right, none, r}, "", api.ErrNone)
		prints(t, names, []api.Rule{right, r, none}, "", api.ErrForm)
		r.Head.A.Pred = 2
		prints(t, names, []api.Rule{r, none}, "", api.ErrForm)
	}
	prints(t, names, []api.Rule{rule(here(2), so(here(0, v(maxVars))))}, "", api.ErrForm)
	prints(t, names, []api.Rule{rule(here(9), so(here(0)), so(by(s(9), 9, v(maxVars))))}, "", api.ErrForm)
}

// written is what the document says of a rule as a text, told in another way than the program tells it.
func written(names []string, r api.Rule) string {
	text := writtenSay(names, r.Head)
	var l []string
	for _, c := range r.Body {
		one := writtenSay(names, c.S)
		if c.Not {
			one = "not " + one
		}
		l = append(l, one)
	}
	if len(l) > 0 {
		text += " :- " + strings.Join(l, ", ")
	}
	return text + ".\n"
}

func writtenSay(names []string, s api.Say) string {
	text := names[s.A.Pred]
	var l []string
	for _, one := range s.A.Args {
		l = append(l, writtenTerm(names, one))
	}
	if len(l) > 0 {
		text += "(" + strings.Join(l, ", ") + ")"
	}
	if s.Said {
		return writtenTerm(names, s.Who) + " says " + text
	}
	return text
}

func writtenTerm(names []string, t api.Term) string {
	if t.Var {
		return fmt.Sprintf("X%d", t.N)
	}
	return names[t.N]
}

// asTheyCome is a rule whose variables are numbered so.
func asTheyCome(r api.Rule) api.Rule {
	r = plain([]api.Rule{r})[0]
	var seen []uint32
	turn := func(t *api.Term) {
		if !t.Var {
			return
		}
		i := slices.Index(seen, t.N)
		if i < 0 {
			i, seen = len(seen), append(seen, t.N)
		}
		t.N = uint32(i)
	}
	turnSay := func(s *api.Say) {
		turn(&s.Who)
		for i := range s.A.Args {
			turn(&s.A.Args[i])
		}
	}
	turnSay(&r.Head)
	for i := range r.Body {
		turnSay(&r.Body[i].S)
	}
	return r
}

// chance makes rules, of names and variables so many.
type chance struct {
	*rand.Rand
	names, vars int
}

func (c chance) term() api.Term {
	if c.Intn(2) == 0 {
		return v(uint32(c.Intn(c.vars)))
	}
	return s(uint32(c.Intn(c.names)))
}

func (c chance) say() api.Say {
	r := api.Say{Said: c.Intn(2) == 0, A: api.Atom{Pred: uint32(c.Intn(c.names))}}
	if r.Said {
		r.Who = c.term()
	}
	for range c.Intn(maxArity + 1) {
		r.A.Args = append(r.A.Args, c.term())
	}
	return r
}

func (c chance) rule() api.Rule {
	r := api.Rule{Head: c.say()}
	for range c.Intn(maxBody + 1) {
		r.Body = append(r.Body, api.Cond{Not: c.Intn(2) == 0, S: c.say()})
	}
	return r
}

// What was printed is parsed, the same, but for the numbers of variables that do not come in their order.
func TestWhatWasPrintedIsParsed(t *testing.T) {
	c := chance{rand.New(rand.NewSource(8)), 9, maxVars}
	names := []string{"p", "a", "_", "0", "not_", "sayS", "q2", strings.Repeat("z", 32), "zZ"}
	for i := range 3000 {
		c.vars = 1 + i%maxVars
		var l, want []api.Rule
		text := ""
		for range c.Intn(5) {
			r := c.rule()
			l, want, text = append(l, r), append(want, asTheyCome(r)), text+written(names, r)
		}
		prints(t, names, l, text, api.OK)
		u := tableOf(t, names)
		if got, at, e := parse.Parse(u, text); !same(got, want) || at != 0 || e != api.OK || !slices.Equal(u.List(), names) {
			t.Fatalf("P8.3: Parse of Print of %v: %v, %d, %d, names %q", l, got, at, e, u.List())
		}
		if got, e := parse.Print(u, want); e != api.OK || !same(l, want) && got == text {
			t.Errorf("P8.3: Print of %v: %q, %d", want, got, e)
		}
		asTold(t, names, text)
	}
}

// As long as a text may be it is parsed; one byte more is too much.
func TestWhatWasPrintedMayBeTooLong(t *testing.T) {
	u := tableOf(t, []string{"p", "pq", "pqr"})
	l := slices.Repeat([]api.Rule{rule(here(0))}, most/3-1) // 65532 bytes
	l = append(l, rule(here(1)))
	for _, last := range []uint32{0, 1} {
		text, e := parse.Print(u, append(slices.Clone(l), rule(here(last))))
		if e != api.OK || len(text) <= most {
			t.Fatalf("P8.2: Print of %d rules: %d bytes, %d", len(l)+1, len(text), e)
		}
		if got, at, e := parse.Parse(u, text); len(got) != 0 || at != 0 || e != api.ErrMany {
			t.Errorf("P8.1: Parse of %d bytes: %d", len(text), e)
		}
	}
	text, e := parse.Print(u, l)
	if got, _, parsed := parse.Parse(u, text); len(text) != most || e != api.OK || parsed != api.OK || !same(got, l) {
		t.Errorf("P8.3: Print of %d rules: %d bytes, %d, parsed %d", len(l), len(text), e, parsed)
	}
	long := slices.Repeat([]api.Rule{rule(here(0, v(0)), notSo(by(v(0), 2, s(1))))}, 100000)
	if text, e := parse.Print(u, long); e != api.OK || text != strings.Repeat("p(X0) :- not X0 says pqr(pq).\n", 100000) {
		t.Errorf("P8.2: Print of %d rules: %d bytes, %d", len(long), len(text), e)
	}
}

// follows holds what the document says to follow against a text.
func follows(t *testing.T, names []string, text string) {
	t.Helper()
	l, u := asTold(t, names, text)
	if _, _, e, _ := told(names, text); e != api.OK {
		return
	}
	put := u.List()
	want := ""
	for _, r := range l {
		want += written(put, r)
	}
	out, e := parse.Print(u, l)
	if out != want || e != api.OK {
		t.Errorf("P8.3: Print of what %s was parsed to: %q, %d, not %q", short(text), out, e, want)
	}
	if len(out) > most {
		return
	}
	again, at, e := parse.Parse(u, out)
	if !same(again, l) || at != 0 || e != api.OK || !slices.Equal(u.List(), put) {
		t.Errorf("P8.3: %s, printed and parsed: %v, %d, %d, not %v", short(text), again, at, e, l)
	}
	if twice, e := parse.Print(u, again); twice != out || e != api.OK {
		t.Errorf("P8.3: %s, printed twice: %q, %d", short(text), twice, e)
	}
}

func TestWhatFollows(t *testing.T) {
	for _, text := range []string{
		"", "p.", "grant(X) :- a says ok(X), not bad(X).", "p(X) :- a says q(X, b), not r.\nY says p(Y, X). % so\nr.", "p(B,A):-A says q(B),C says q(X0,X1).", "p(X1,X0).p(X0,X1).",
		strings.Repeat("a says b(X1,X0).", most/16), strings.Repeat("a.", most/2),
	} {
		follows(t, nil, text)
		follows(t, []string{"q", "X0", "not", "b"}, text)
		follows(t, someNames(maxSyms-1), text)
	}
}

// pieces are the words that texts by chance are made of; some come often.
var pieces = []string{
	"a", "b", "n0", "n1", "c", "_", "not_", "X", "Y", "X1", "Says", "not", "says", "(", ")", ",", ",", ".", ".", ":-", "% a\n",
}

// mutant is a text with some of its words taken out, put in, or turned.
func (c chance) mutant(words []string) string {
	l := slices.Clone(words)
	for range c.Intn(3) {
		i := c.Intn(len(l) + 1)
		switch w := pieces[c.Intn(len(pieces))]; c.Intn(3) {
		case 0:
			l = slices.Insert(l, i, w)
		case 1:
			l = slices.Delete(l, max(i-1, 0), i)
		default:
			l = append(l[:max(i-1, 0)], append([]string{w}, l[i:]...)...)
		}
	}
	return strings.Join(l, []string{" ", "\n", " %)\n"}[c.Intn(3)])
}

// atMost tells up to n texts, with a comma between each two, and seldom one more.
func (c chance) atMost(n int, one func() string) string {
	n = 1 + c.Intn(n)
	if c.Intn(30) == 0 {
		n = 10
	}
	var l []string
	for range n {
		l = append(l, one())
	}
	return strings.Join(l, " , ")
}

func (c chance) termText() string {
	if c.Intn(2) == 0 {
		return fmt.Sprint("V", c.Intn(c.vars))
	}
	return fmt.Sprint("n", c.Intn(c.names))
}

func (c chance) sayText() string {
	text := fmt.Sprint("n", c.Intn(c.names))
	if c.Intn(2) == 0 {
		text += " ( " + c.atMost(maxArity, c.termText) + " )"
	}
	if c.Intn(3) == 0 {
		text = c.termText() + " says " + text
	}
	return text
}

func (c chance) condText() string {
	if c.Intn(3) == 0 {
		return "not " + c.sayText()
	}
	return c.sayText()
}

func (c chance) ruleText() string {
	text := c.sayText()
	if c.Intn(2) == 0 {
		text += " :- " + c.atMost(maxBody, c.condText)
	}
	return text + " . "
}

// Texts that are nearly right, ahead of tables that are nearly full.
func TestManyByChance(t *testing.T) {
	c := chance{Rand: rand.New(rand.NewSource(81))}
	found := map[api.Errno]int{}
	for i := range 6000 {
		text := ""
		c.names, c.vars = 1+c.Intn(20), 1+c.Intn(24)
		for range 1 + c.Intn(4) {
			text += c.ruleText()
		}
		var names []string
		if i%6 == 0 {
			names = slices.Concat(someNames(maxSyms + 18)[20+c.Intn(12):], []string{"X", "says"}) // a few of the text's names have room
		}
		if i%3 > 0 {
			text = c.mutant(strings.Fields(text))
		}
		follows(t, names, text)
		_, _, e, _ := told(names, text)
		found[e]++
	}
	for _, e := range []api.Errno{api.OK, api.ErrBytes, api.ErrMany} {
		if found[e] < 500 {
			t.Errorf("the test itself is wrong: %d texts of error %d", found[e], e)
		}
	}
}

func TestAnyBytes(t *testing.T) {
	r := rand.New(rand.NewSource(18))
	const odd = "aaaXX((),,..:- %\n?_\xff"
	for range 20000 {
		b := make([]byte, r.Intn(12))
		for i := range b {
			b[i] = odd[r.Intn(len(odd))]
		}
		asTold(t, nil, string(b))
	}
	for c := range 256 {
		text := "p(X) :- a says q(X, b), not r."
		for at := range len(text) + 1 {
			asTold(t, nil, text[:at]+string([]byte{byte(c)})+text[at:])
		}
	}
}

// Rules of any numbers and any lengths have a text or an error.
func TestAnyRules(t *testing.T) {
	r := rand.New(rand.NewSource(180))
	number := func() uint32 { return []uint32{0, 1, 2, 3, 15, 16, 1 << 31, math.MaxUint32}[r.Intn(8)] }
	term := func() api.Term { return api.Term{Var: r.Intn(2) == 0, N: number()} }
	anySay := func() (s api.Say) {
		s = api.Say{Said: r.Intn(2) == 0, A: api.Atom{Pred: number() % 4}}
		if s.Said || r.Intn(8) == 0 {
			s.Who = term()
		}
		for range r.Intn(4) * r.Intn(3) {
			s.A.Args = append(s.A.Args, term())
		}
		return s
	}
	u := tableOf(t, []string{"p", "a", "Q"})
	found := map[api.Errno]int{}
	for range 20000 {
		one := api.Rule{Head: anySay()}
		for range r.Intn(5) * r.Intn(3) {
			one.Body = append(one.Body, api.Cond{Not: r.Intn(2) == 0, S: anySay()})
		}
		want, e := "", api.ErrForm
		if wire.May(one) {
			if e = api.ErrNone; !hasOther(one) {
				want, e = written(u.List(), one), api.OK
			}
		}
		if text, gotE := parse.Print(u, []api.Rule{one}); text != want || gotE != e {
			t.Errorf("P8.2: Print of %v: %q, %d, not %q, %d", one, text, gotE, want, e)
		}
		found[e]++
	}
	if len(found) != 3 || found[api.OK] < 100 {
		t.Errorf("the test itself is wrong: %v", found)
	}
}

// hasOther: has a rule a number of no name, or of one that is no Name, among p, a and Q?
func hasOther(r api.Rule) bool {
	l := []api.Term{}
	for _, c := range append([]api.Cond{{S: r.Head}}, r.Body...) {
		l = append(append(l, s(c.S.A.Pred)), c.S.A.Args...)
		if c.S.Said {
			l = append(l, c.S.Who)
		}
	}
	return slices.ContainsFunc(l, func(t api.Term) bool { return !t.Var && t.N > 1 })
}

func TestWhatIsHandedInIsNotChanged(t *testing.T) {
	args := []api.Term{v(0), s(1), s(9), s(9)}
	body := []api.Cond{so(by(v(0), 1, args[:2]...)), notSo(here(0)), so(here(9)), so(here(9))}
	rules := []api.Rule{rule(here(0, args[:2]...), body[:2]...), rule(here(1)), rule(here(9)), rule(here(9))}
	rules[0].Head.A.Args, rules[0].Body = args[:2], body[:2]
	keptArgs, keptBody, keptRules := slices.Clone(args), slices.Clone(body), slices.Clone(rules)
	u := tableOf(t, []string{"p", "a"})
	for range 3 {
		text, e := parse.Print(u, rules[:2])
		if text != "p(X0, a) :- X0 says a(X0, a), not p.\na.\n" || e != api.OK {
			t.Errorf("R5: Print: %q, %d", text, e)
		}
		if _, e := parse.Print(u, rules); e != api.ErrNone {
			t.Errorf("P8.2: Print: %d", e)
		}
	}
	if !reflect.DeepEqual(args, keptArgs) || !reflect.DeepEqual(body, keptBody) || !reflect.DeepEqual(rules, keptRules) {
		t.Errorf("R3: what was handed in is changed: %v, %v, %v", args, body, rules)
	}
}

// lists are all that rules have, each with what room stands behind its end.
func lists(l []api.Rule) (args [][]api.Term, bodies [][]api.Cond) {
	for _, r := range l {
		args, bodies = append(args, r.Head.A.Args), append(bodies, r.Body)
		for _, c := range r.Body {
			args = append(args, c.S.A.Args)
		}
	}
	return args, bodies
}

func TestWhatIsAnsweredIsNewMemory(t *testing.T) {
	text := strings.Clone("p(X,a,b) :- a says q(X, b, c), not r(b,X,X).p(X,a,b):-q(X,b,c).grant:-p,q,r(X).")
	u := syms.New()
	l, _, _ := parse.Parse(u, text)
	other, _, _ := parse.Parse(u, text)
	if len(l) != 3 {
		t.Fatalf("P8.1: %v", l)
	}
	kept := plain(l)
	args, bodies := lists(l)
	for _, a := range args { // the room behind one list must not be a part of another one
		clear(a[len(a):cap(a)])
	}
	for _, b := range bodies {
		clear(b[len(b):cap(b)])
	}
	clear(l[len(l):cap(l)])
	if !same(l, kept) {
		t.Errorf("R3: two lists hang together: %v", l)
	}
	for _, a := range args {
		clear(a)
	}
	for _, b := range bodies {
		clear(b)
	}
	clear(l)
	if again, _, _ := parse.Parse(u, text); !same(other, kept) || !same(again, kept) {
		t.Errorf("R3: rules are kept: %v, %v", other, again)
	}
	from := uintptr(unsafe.Pointer(unsafe.StringData(text)))
	for _, name := range u.List() {
		if at := uintptr(unsafe.Pointer(unsafe.StringData(name))); at >= from && at < from+uintptr(len(text)) {
			t.Errorf("R3: the name %q is a part of the text", name)
		}
	}
	if u.Len() != 7 {
		t.Errorf("P8.1: names %q", u.List())
	}
}

// asRules are the rules whose bytes stand one behind the other: so any bytes say some that may be, or none.
func asRules(b []byte) (l []api.Rule) {
	for at := 0; at < len(b); {
		r, next, e := wire.TakeRule(b, at)
		if e != api.OK {
			return l
		}
		l, at = append(l, r), next
	}
	return l
}

func FuzzAsTold(f *testing.F) {
	for _, text := range []string{"", "p(X) :- a says q(X, b), not r.", "X says p:-not Y says n1(n2).%\n", "p(a,b,c,d,e,f,g).", "p:-q,q,q,q,q,q,q,q,q.", "p(", "n0 n1", "p. ?"} {
		f.Add(text)
	}
	f.Fuzz(func(t *testing.T, text string) {
		follows(t, nil, text)
		follows(t, someNames(maxSyms-2), text)
		l := asRules([]byte(text))
		names := someNames(50)
		u := tableOf(t, names)
		if out, e := parse.Print(u, l); e == api.OK {
			follows(t, names, out)
		}
	})
}
