package lex_test

import (
	"fmt"
	"math/rand"
	"regexp"
	"slices"
	"strings"
	"testing"
	"unsafe"

	"bailey/api"
	"bailey/lex"
)

// The numbers of kinds, and the length of a text, are the document's.
const (
	name  = 1
	vary  = 2
	not   = 3
	says  = 4
	open  = 5
	shut  = 6
	comma = 7
	stop  = 8
	iff   = 9
	most  = 65536
)

// longest is how many letters stand in a word at most.
const longest = 32

// next is what a text may go on with, told in another way than the program tells it: a word is in the group of its kind, blanks are in none.
var next = regexp.MustCompile(`\A(?:[ \t\n\r]|%[^\n]*|([a-z0-9_][a-zA-Z0-9_]*)|([A-Z][a-zA-Z0-9_]*)|(\()|(\))|(,)|(\.)|(:-))`)

// groups are the kinds of the groups of next; of what a word of letters may mean beside there is none.
var groups = []uint8{name, vary, open, shut, comma, stop, iff}

// onlyBlanks may stand between words; a comment that ends with the text stands behind the last one.
var onlyBlanks = regexp.MustCompile(`\A(?:[ \t\n\r]|%[^\n]*(?:\n|\z))*\z`)

// told is what the document tells of a text.
func told(text string) (l []lex.Word, at int, e api.Errno) {
	if len(text) > most {
		return nil, 0, api.ErrMany
	}
	for at < len(text) {
		m := next.FindStringSubmatchIndex(text[at:])
		if m == nil {
			return nil, at, api.ErrBytes
		}
		for i, kind := range groups {
			if m[2*i+2] < 0 {
				continue
			}
			w := lex.Word{Kind: kind, Text: text[at : at+m[1]], At: at}
			switch {
			case kind <= vary && m[1] > longest:
				return nil, at, api.ErrBytes
			case w.Text == "not":
				w.Kind = not
			case w.Text == "says":
				w.Kind = says
			}
			l = append(l, w)
		}
		at += m[1]
	}
	return l, 0, api.OK
}

// asTold holds Words of a text against the document, and answers its words.
func asTold(t *testing.T, text string) []lex.Word {
	t.Helper()
	l, at, e := lex.Words(text)
	wantL, wantAt, wantE := told(text)
	if !slices.Equal(l, wantL) || at != wantAt || e != wantE {
		t.Errorf("P7.1: Words of %s: %v, %d, %d, not %v, %d, %d", short(text), l, at, e, wantL, wantAt, wantE)
	}
	return l
}

// short is a text as it may be told when something is wrong.
func short(text string) string {
	if len(text) > 200 {
		return fmt.Sprintf("%q.. (%d bytes)", text[:200], len(text))
	}
	return fmt.Sprintf("%q", text)
}

// has says what all words of a text are, at their places.
func has(t *testing.T, text string, want ...lex.Word) {
	t.Helper()
	if l, at, e := lex.Words(text); !slices.Equal(l, want) || at != 0 || e != api.OK {
		t.Errorf("P7.1: Words of %s: %v, %d, %d, not %v", short(text), l, at, e, want)
	}
}

// fails says that a text has no words, by which error, and at which place.
func fails(t *testing.T, text string, at int, e api.Errno) {
	t.Helper()
	if l, gotAt, gotE := lex.Words(text); len(l) != 0 || gotAt != at || gotE != e {
		t.Errorf("P7.1: Words of %s: %v, %d, %d, not at %d, %d", short(text), l, gotAt, gotE, at, e)
	}
}

func TestTheNumbers(t *testing.T) {
	if got := []uint8{lex.Name, lex.Var, lex.Not, lex.Says, lex.Open, lex.Shut, lex.Comma, lex.Stop, lex.If}; !slices.Equal(got, []uint8{1, 2, 3, 4, 5, 6, 7, 8, 9}) {
		t.Errorf("the kinds: %v", got)
	}
	if lex.Most != most {
		t.Errorf("Most: %d", lex.Most)
	}
}

func TestTheDocumentsExamples(t *testing.T) {
	has(t, "p(X):-not q.%r",
		lex.Word{Kind: name, Text: "p", At: 0}, lex.Word{Kind: open, Text: "(", At: 1}, lex.Word{Kind: vary, Text: "X", At: 2},
		lex.Word{Kind: shut, Text: ")", At: 3}, lex.Word{Kind: iff, Text: ":-", At: 4}, lex.Word{Kind: not, Text: "not", At: 6},
		lex.Word{Kind: name, Text: "q", At: 10}, lex.Word{Kind: stop, Text: ".", At: 11})
	fails(t, "a : b", 2, api.ErrBytes)
	fails(t, "a?", 1, api.ErrBytes)
	fails(t, "?a", 0, api.ErrBytes)
	if l, _, _ := lex.Words("p(X):-not q.%r"); lex.Join(l) != "p ( X ) :- not q ." {
		t.Errorf("P7.2: Join, in the example: %q", lex.Join(l))
	}
}

func TestEachWordAlone(t *testing.T) {
	for text, kind := range map[string]uint8{
		"(": open, ")": shut, ",": comma, ".": stop, ":-": iff,
		"not": not, "says": says,
		"Not": vary, "NOT": vary, "Says": vary, "SAYS": vary, "nOt": name, "noT": name, "sayS": name,
		"no": name, "nott": name, "not_": name, "not0": name, "_not": name, "0not": name, "notsays": name, "say": name, "sayss": name, "says_": name, "saysnot": name,
		"a": name, "z": name, "aZ": name, "A": vary, "Z": vary, "Az": vary, "A_": vary, "_": name, "_A": name, "0": name, "9": name, "9A": name, "0x": name,
		"if": name, "and": name, "true": name,
	} {
		has(t, text, lex.Word{Kind: kind, Text: text})
		has(t, " "+text+" ", lex.Word{Kind: kind, Text: text, At: 1})
		has(t, "%"+text+"\n"+text+"%"+text, lex.Word{Kind: kind, Text: text, At: len(text) + 2})
		has(t, "."+text+")", lex.Word{Kind: stop, Text: "."}, lex.Word{Kind: kind, Text: text, At: 1}, lex.Word{Kind: shut, Text: ")", At: 1 + len(text)})
	}
}

func TestBlanksAlone(t *testing.T) {
	for _, text := range []string{"", " ", "\t", "\n", "\r", " \t\n\r ", "%", "%%", "% \n", "%\n%", "%\r?", "% not a word: \x00\xff\u00e4 ?", "\n%?\n\n%?", "%" + strings.Repeat("x", 100)} {
		has(t, text)
	}
}

// A comment is over at the byte 10, not at the byte 13 nor at any other one.
func TestWhereACommentEnds(t *testing.T) {
	has(t, "a%b\nc", lex.Word{Kind: name, Text: "a"}, lex.Word{Kind: name, Text: "c", At: 4})
	has(t, "a%b%\nc", lex.Word{Kind: name, Text: "a"}, lex.Word{Kind: name, Text: "c", At: 5})
	fails(t, "a%b\n?", 4, api.ErrBytes)
	for c := range 256 {
		if c != '\n' {
			has(t, "a%"+string([]byte{byte(c)})+"?", lex.Word{Kind: name, Text: "a"})
		}
	}
	has(t, "a%?\n", lex.Word{Kind: name, Text: "a"})
	has(t, "a:-%?\nb", lex.Word{Kind: name, Text: "a"}, lex.Word{Kind: iff, Text: ":-", At: 1}, lex.Word{Kind: name, Text: "b", At: 6})
}

// What is neither a word nor a blank, wherever it stands.
func TestEachByteAtEachPlace(t *testing.T) {
	for c := range 256 {
		b := string([]byte{byte(c)})
		for _, text := range []string{"", "a", "Zz", " ", "(", ":-", "not says", "p(X,Y):-a says q(X),not r.\n% r\nr."} {
			for at := range len(text) + 1 {
				asTold(t, text[:at]+b+text[at:])
			}
		}
	}
}

func TestPairsOfBytes(t *testing.T) {
	for c := range 256 {
		for d := range 256 {
			asTold(t, string([]byte{byte(c), byte(d)}))
			asTold(t, string([]byte{'.', byte(c), byte(d), 'a'}))
		}
	}
}

// Every short text out of bytes that mean something, and some that mean nothing.
func TestEveryShortText(t *testing.T) {
	each("aB9_ \n%:-(),.?\x00\xc3", 4, func(text string) { asTold(t, text) })
	each("aA %\n:-", 6, func(text string) { asTold(t, text) })
	each("not ", 6, func(text string) { asTold(t, text) })
}

// each tells all texts of so many bytes at most.
func each(bytes string, size int, tell func(string)) {
	var behind func(string)
	behind = func(text string) {
		tell(text)
		for i := 0; i < len(bytes) && len(text) < size; i++ {
			behind(text + bytes[i:i+1])
		}
	}
	behind("")
}

func TestHalvesOfIf(t *testing.T) {
	for text, at := range map[string]int{
		":": 0, "-": 0, "-:": 0, "::": 0, "::-": 0, ": -": 0, ":\n-": 0, ":%\n-": 0, ":=": 0,
		":--": 2, ":-:": 2, ":-:-:": 4, ":- -": 3, "a:": 1, "a-": 1, "a-b": 1, "p(-)": 2, "(:": 1, "a :": 2, "a\n\n:\n": 3,
	} {
		fails(t, text, at, api.ErrBytes)
	}
	has(t, ":-:-", lex.Word{Kind: iff, Text: ":-"}, lex.Word{Kind: iff, Text: ":-", At: 2})
	has(t, "a:-b", lex.Word{Kind: name, Text: "a"}, lex.Word{Kind: iff, Text: ":-", At: 1}, lex.Word{Kind: name, Text: "b", At: 3})
}

func TestEachLengthOfLetters(t *testing.T) {
	for n := 1; n <= 100; n++ {
		for begin, kind := range map[string]uint8{"a": name, "Z": vary, "0": name, "_": name} {
			for _, letter := range []string{"z", "A", "9", "_"} {
				word := begin + strings.Repeat(letter, n-1)
				for _, ahead := range []string{"", " ", "(", "%x\n"} {
					if n > longest {
						fails(t, ahead+word, len(ahead), api.ErrBytes)
						fails(t, ahead+word+".", len(ahead), api.ErrBytes)
						continue
					}
					l := asTold(t, ahead+word+".")
					if len(l) < 2 || l[len(l)-2] != (lex.Word{Kind: kind, Text: word, At: len(ahead)}) {
						t.Errorf("R7: Words of %q: %v", ahead+word+".", l)
					}
				}
			}
		}
	}
	for _, word := range []string{"not", "says"} { // what they mean says nothing of a longer word
		has(t, word+strings.Repeat("x", longest-len(word)), lex.Word{Kind: name, Text: word + strings.Repeat("x", longest-len(word))})
		fails(t, "a "+word+strings.Repeat("x", longest+1-len(word)), 2, api.ErrBytes)
	}
}

func TestLongWordsApart(t *testing.T) {
	word := strings.Repeat("x", longest)
	for _, between := range []string{" ", "\n", "\t", "\r", "%\n", "%" + word + word + "\n"} {
		has(t, word+between+word, lex.Word{Kind: name, Text: word}, lex.Word{Kind: name, Text: word, At: longest + len(between)})
	}
	has(t, word+".Y", lex.Word{Kind: name, Text: word}, lex.Word{Kind: stop, Text: ".", At: longest}, lex.Word{Kind: vary, Text: "Y", At: longest + 1})
	has(t, "%"+word+word+"\n"+word, lex.Word{Kind: name, Text: word, At: 2 + 2*longest})
	fails(t, word+word, 0, api.ErrBytes)
}

// The first fault is told, whichever it is.
func TestWhichFaultComesFirst(t *testing.T) {
	long := strings.Repeat("x", longest+1)
	for text, at := range map[string]int{
		"? " + long:                         0,
		long + " ?":                         0,
		long + "?":                          0,
		"?" + long:                          0,
		"a " + long + "?":                   2,
		"a ?" + long:                        2,
		"a ? : \xff":                        2,
		"a : ?":                             2,
		"%?\n : " + long:                    4,
		"%" + long + "\n a?":                len(long) + 4,
		"p. % ?\n" + long:                   7,
		"a\u00e4":                           1,
		"\u00e4a":                           0,
		"a \u2003 b":                        2,
		"a\x0bb":                            1,
		"a\x0c":                             1,
		"a\u00a0b":                          1,
		"\ufeffa":                           0,
		"a\x7f":                             1,
		"\"a\"":                             0,
		"a :- b; c.":                        6,
		"A=b":                               1,
		"p(a,b]":                            5,
		"a\\":                               1,
		"a'":                                1,
		"a/*b*/":                            1,
		"a//b":                              1,
		"a#b":                               1,
		"1.5-":                              3,
		strings.Repeat(".", 9999) + "?":     9999,
		strings.Repeat("a ", 9999) + "\x00": 19998,
	} {
		fails(t, text, at, api.ErrBytes)
		asTold(t, text)
	}
}

func TestTheLongestText(t *testing.T) {
	for _, text := range []string{
		strings.Repeat(" ", most), strings.Repeat("(", most), strings.Repeat(".", most), strings.Repeat("%", most),
		strings.Repeat(":-", most/2), strings.Repeat("a ", most/2), strings.Repeat("a.", most/2), strings.Repeat("\n", most-1) + "%",
		"%" + strings.Repeat("?", most-1), strings.Repeat(strings.Repeat("x", longest-1)+" ", most/longest), strings.Repeat("says", 8) + strings.Repeat(" not", (most-32)/4),
	} {
		if len(text) != most {
			t.Fatalf("the test itself is wrong: %d bytes", len(text))
		}
		if _, _, e := lex.Words(text); e != api.OK {
			t.Errorf("R7: Words of %s: %d", short(text), e)
		}
		asTold(t, text)
		fails(t, text+" ", 0, api.ErrMany)
		fails(t, " "+text, 0, api.ErrMany)
	}
	for _, last := range []string{"?", ":", "\xff", "-"} {
		fails(t, strings.Repeat(" ", most-1)+last, most-1, api.ErrBytes)
	}
	fails(t, strings.Repeat("a", most), 0, api.ErrBytes)
	fails(t, strings.Repeat(" ", most-longest-1)+strings.Repeat("a", longest+1), most-longest-1, api.ErrBytes)
	fails(t, strings.Repeat(" ", most-1)+":-", 0, api.ErrMany)
}

// That a text is too long goes ahead of all that is wrong in it.
func TestMoreThanMayBe(t *testing.T) {
	for _, n := range []int{most + 1, most + 2, 2 * most, 1 << 20, 1 << 24} {
		for _, one := range []string{" ", "a", "?", "%", "(", "\x00"} {
			fails(t, strings.Repeat(one, n), 0, api.ErrMany)
		}
		fails(t, "?"+strings.Repeat(" ", n-1), 0, api.ErrMany)
	}
}

func TestJoin(t *testing.T) {
	of := func(l ...string) (words []lex.Word) {
		for i, text := range l {
			words = append(words, lex.Word{Kind: uint8(97 * i), Text: text, At: -i})
		}
		return words
	}
	for _, c := range []struct {
		l    []lex.Word
		want string
	}{
		{nil, ""},
		{[]lex.Word{}, ""},
		{of("a"), "a"},
		{of("a", "b"), "a b"},
		{of("p", "(", "X", ")", ":-", "q", "."), "p ( X ) :- q ."},
		{of("not", "not", "says"), "not not says"},
		{of(""), ""},
		{of("", ""), " "},
		{of("", "a", ""), " a "},
		{of(" ", "\n"), "  \n"},
		{of("a b", "%", "\x00\xff", "\u00e4"), "a b % \x00\xff \u00e4"},
		{make([]lex.Word, 100000), strings.Repeat(" ", 99999)},
		{of(strings.Repeat("x", 100000), "y"), strings.Repeat("x", 100000) + " y"},
	} {
		for range 2 {
			if got := lex.Join(c.l); got != c.want {
				t.Errorf("P7.2: Join of %v: %s, not %s", c.l, short(got), short(c.want))
			}
		}
	}
}

// follows holds what the document says to follow against a text's words.
func follows(t *testing.T, text string) {
	t.Helper()
	l := asTold(t, text)
	if _, _, e := lex.Words(text); e != api.OK {
		return
	}
	end := 0
	for _, w := range l {
		if w.Text == "" || w.At < end || w.At+len(w.Text) > len(text) || text[w.At:w.At+len(w.Text)] != w.Text || !onlyBlanks.MatchString(text[end:w.At]) {
			t.Fatalf("P7.3: the word %v of %s, behind %d", w, short(text), end)
		}
		end = w.At + len(w.Text)
	}
	if !onlyBlanks.MatchString(text[end:]) {
		t.Errorf("P7.3: behind the last word of %s: %s", short(text), short(text[end:]))
	}
	joined := lex.Join(l)
	if len(joined) > most {
		fails(t, joined, 0, api.ErrMany)
		return
	}
	again, at, e := lex.Words(joined)
	for i, w := range l { // each behind the one before, and a blank
		w.At = 0
		if i > 0 {
			w.At = again[i-1].At + len(l[i-1].Text) + 1
		}
		if i >= len(again) || again[i] != w {
			t.Fatalf("P7.3: words of Join of those of %s: %v, not %v", short(text), again, l)
		}
	}
	if len(again) != len(l) || at != 0 || e != api.OK || lex.Join(again) != joined {
		t.Errorf("P7.3: words of Join of those of %s: %v, %d, %d", short(text), again, at, e)
	}
}

func TestWhatFollows(t *testing.T) {
	for _, text := range []string{
		"", "a", "p(X):-not q.%r", "grant(X) :- a says ok(X), not bad(X).", "a%b\nc", "%", "((,).:-", "a.b.c", "not_not not says_says says",
		"p.\n\n% of p\n\tq(X, Y) :- X says p, not\r\nY says r.\n%", strings.Repeat("(", most), strings.Repeat("a ", most/2), strings.Repeat("(", most/2), strings.Repeat("(", most/2+1),
	} {
		follows(t, text)
	}
}

// pieces are what most texts that may be are made of, and faults that are seldom.
var pieces = []string{
	"a", "b", "X", "Y1", "not", "says", "Says", "_", "0", "not_", "(", ")", ",", ".", ":-", " ", " ", " ", "\n", "\t", "\r", "% a\n", "%?:\r\n", "%\n",
	strings.Repeat("z", 31), strings.Repeat("Z", 32),
}

var faults = []string{":", "-", "?", "\x00", "\xff", "\u00e4", strings.Repeat("z", 33), "\v", "%"}

func TestManyByChance(t *testing.T) {
	r := rand.New(rand.NewSource(7))
	right := 0
	for i := range 20000 {
		var b strings.Builder
		for range r.Intn(30) {
			b.WriteString(pieces[r.Intn(len(pieces))])
			if i%2 == 0 && r.Intn(20) == 0 {
				b.WriteString(faults[r.Intn(len(faults))])
			}
		}
		follows(t, b.String())
		if _, _, e := lex.Words(b.String()); e == api.OK {
			right++
		}
	}
	if right < 2000 || right > 18000 {
		t.Errorf("the test itself is wrong: %d texts have words", right)
	}
}

// A word that is cut out of a text must not be a part of it any more: else the whole text is kept.
func TestWhatIsAnsweredIsNewMemory(t *testing.T) {
	text := strings.Clone("p(X) :- a says q, not r.")
	l, _, _ := lex.Words(text)
	if len(l) != 12 {
		t.Fatalf("P7.1: %v", l)
	}
	from := uintptr(unsafe.Pointer(unsafe.StringData(text)))
	for _, w := range l {
		if at := uintptr(unsafe.Pointer(unsafe.StringData(w.Text))); at >= from && at < from+uintptr(len(text)) {
			t.Errorf("R3: the word %v is a part of its text", w)
		}
	}
	one := []lex.Word{{Text: strings.Clone("word")}}
	if joined := lex.Join(one); unsafe.StringData(joined) == unsafe.StringData(one[0].Text) {
		t.Error("R3: Join of one word is its Text itself")
	}
	again, _, _ := lex.Words(text)
	clear(l[:cap(l)])
	_ = append(l[:1], lex.Word{Text: "spoilt"})
	if lex.Join(again) != "p ( X ) :- a says q , not r ." {
		t.Errorf("R3: two lists hang together: %v", again)
	}
	has(t, "not says", lex.Word{Kind: not, Text: "not"}, lex.Word{Kind: says, Text: "says", At: 4})
}

func TestWhatIsHandedInIsNotChanged(t *testing.T) {
	whole := []lex.Word{{1, "a", 0}, {2, "B", 2}, {3, "not", 4}, {9, "room", 99}}
	before := slices.Clone(whole)
	for range 3 {
		if got := lex.Join(whole[:3]); got != "a B not" {
			t.Errorf("R5: Join: %q", got)
		}
	}
	if !slices.Equal(whole, before) {
		t.Errorf("R3: what was handed in is changed: %v", whole)
	}
}

// What was refused says nothing to what is asked next.
func TestWordsHangOnNothingElse(t *testing.T) {
	for range 3 {
		fails(t, "a b ?", 4, api.ErrBytes)
		has(t, "a b", lex.Word{Kind: name, Text: "a"}, lex.Word{Kind: name, Text: "b", At: 2})
		fails(t, strings.Repeat("a ", most), 0, api.ErrMany)
		has(t, "")
	}
}

func FuzzAsTold(f *testing.F) {
	for _, text := range append(slices.Concat(pieces, faults), "p(X):-not q.%r", "a : b", "grant(X) :- a says ok(X), not bad(X).\n% so\n") {
		f.Add(text)
	}
	f.Fuzz(func(t *testing.T, text string) { follows(t, text) })
}
