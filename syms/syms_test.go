package syms_test

import (
	"math"
	"math/rand"
	"regexp"
	"slices"
	"strconv"
	"strings"
	"testing"
	"unsafe"

	"bailey/api"
	"bailey/syms"
)

// formOfNames is what may be, told in another way than the program tells it.
var formOfNames = regexp.MustCompile(`\A[a-zA-Z0-9_]{1,32}\z`)

// mayBe are names at the edges of what may be.
var mayBe = []string{
	"a", "z", "A", "Z", "0", "9", "_", "az", "AZ", "09", "__", "a_B9", "0a", "_0", "true", "says", "not",
	strings.Repeat("x", 31), strings.Repeat("Z", 32), strings.Repeat("_", 32), "abcdefghijklmnopqrstuvwxyzABCDEF",
}

// mayNotBe are names that are one byte away from what may be, and some that are far from it.
var mayNotBe = []string{
	"", " ", "a b", " a", "a ", "a\n", "a\x00", "\x00", "a-b", "a.b", "@", "[", "`", "{", "/", ":", "^", "a'", "\u00e4", "a\u00e9", "\u0661", "\uff41", "\u212a", "\u017f", "\xff", "a\xe4", "\xc3", "a\x80",
	strings.Repeat("x", 33), strings.Repeat("x", 32) + " ", " " + strings.Repeat("x", 32), strings.Repeat("x", 31) + "-", "-" + strings.Repeat("x", 31), strings.Repeat("x", 1000), strings.Repeat("\u00e4", 16),
}

// putting puts one name, and holds what is answered against what is wanted.
func putting(t *testing.T, s *syms.Table, name string, n uint32, e api.Errno) {
	t.Helper()
	if gotN, gotE := s.Put(name); gotN != n || gotE != e {
		t.Errorf("P4.2: Put of %q: %d, %d, not %d, %d", name, gotN, gotE, n, e)
	}
}

// holds: has the table just these names, at these numbers, whichever call tells it?
func holds(t *testing.T, promise string, s *syms.Table, names []string) {
	t.Helper()
	if l := s.List(); !slices.Equal(l, names) {
		t.Errorf("%s: List: %q, not %q", promise, l, names)
	}
	if got := s.Len(); got != len(names) {
		t.Errorf("%s: Len: %d, not %d", promise, got, len(names))
	}
	for i, name := range names {
		if n, is := s.Find(name); n != uint32(i) || !is {
			t.Errorf("%s: Find of %q: %d, %v, not %d", promise, name, n, is, i)
		}
		if got, is := s.Name(uint32(i)); got != name || !is {
			t.Errorf("%s: Name of %d: %q, %v, not %q", promise, i, got, is, name)
		}
	}
	for _, n := range []uint32{uint32(len(names)), uint32(len(names)) + 1, 1 << 16, math.MaxInt32, 1 << 31, math.MaxUint32} {
		if got, is := s.Name(n); got != "" || is {
			t.Errorf("%s: Name of %d, where none is: %q, %v", promise, n, got, is)
		}
	}
}

// made is a table of names that may be.
func made(t *testing.T, names []string) *syms.Table {
	t.Helper()
	s, e := syms.Of(names)
	if s == nil || e != api.OK {
		t.Fatalf("P4.1: Of %d names: %d", len(names), e)
	}
	return s
}

// numbered are so many names that are not alike.
func numbered(n int) []string {
	var l []string
	for i := range n {
		l = append(l, "n"+strconv.Itoa(i))
	}
	return l
}

func TestMayOfEachByteAtEachPlace(t *testing.T) {
	for c := range 256 {
		for size := 1; size <= 4; size++ {
			for at := range size {
				b := []byte("aZ9_")[:size]
				b[at] = byte(c)
				if got := syms.May(string(b)); got != formOfNames.Match(b) {
					t.Errorf("P4.1: May of %q: %v", b, got)
				}
			}
		}
	}
}

func TestMayOfEachLength(t *testing.T) {
	for n := range 100 {
		for _, c := range []string{"a", "Z", "0", "_"} {
			if got, want := syms.May(strings.Repeat(c, n)), n >= 1 && n <= 32; got != want {
				t.Errorf("P4.1: May of %d times %q: %v", n, c, got)
			}
		}
	}
}

func TestMayAtItsEdges(t *testing.T) {
	for _, name := range mayBe {
		if !syms.May(name) {
			t.Errorf("P4.1: %q may not be", name)
		}
	}
	for _, name := range mayNotBe {
		if syms.May(name) {
			t.Errorf("P4.1: %q may be", name)
		}
	}
}

func TestNewIsOfNone(t *testing.T) {
	s := syms.New()
	if s == nil {
		t.Fatal("P4.1: New answers no table")
	}
	holds(t, "P4.1: New", s, nil)
	if n, is := s.Find("a"); n != 0 || is {
		t.Errorf("P4.2: Find, in a table of none: %d, %v", n, is)
	}
	if got, is := s.Name(0); got != "" || is {
		t.Errorf("P4.2: Name of 0, in a table of none: %q, %v", got, is)
	}
	putting(t, s, "a", 0, api.OK)
	holds(t, "P4.2", s, []string{"a"})
}

func TestTablesOfTheirOwn(t *testing.T) {
	one, two := syms.New(), syms.New()
	putting(t, one, "a", 0, api.OK)
	putting(t, two, "b", 0, api.OK)
	putting(t, one, "c", 1, api.OK)
	holds(t, "P4.1: one of two tables", one, []string{"a", "c"})
	holds(t, "P4.1: the other one", two, []string{"b"})
}

func TestOf(t *testing.T) {
	for _, c := range []struct{ l, names []string }{
		{nil, nil},
		{[]string{}, nil},
		{[]string{"a"}, []string{"a"}},
		{[]string{"b", "a"}, []string{"b", "a"}},
		{[]string{"a", "a", "a"}, []string{"a"}},
		{[]string{"b", "a", "b", "c", "a", "d"}, []string{"b", "a", "c", "d"}},
		{mayBe, mayBe},
	} {
		holds(t, "P4.1: Of", made(t, c.l), c.names)
	}
}

func TestOfNamesThatMayNotBe(t *testing.T) {
	for _, name := range mayNotBe {
		for _, l := range [][]string{{name}, {name, "a"}, {"a", name}, {"a", name, "b"}, {name, name}} {
			if s, e := syms.Of(l); s != nil || e != api.ErrForm {
				t.Errorf("P4.1: Of %q: %v, %d", l, s != nil, e)
			}
		}
	}
}

func TestOfMoreThanMayBe(t *testing.T) {
	full := numbered(api.MaxSyms)
	holds(t, "P4.1: Of as many as may be", made(t, full), full)
	holds(t, "P4.1: Of as many as may be, each twice", made(t, slices.Concat(full, full)), full)
	for _, c := range []struct {
		what string
		l    []string
		e    api.Errno
	}{
		{"one more", append(numbered(api.MaxSyms), "more"), api.ErrMany},
		{"one more, then one that may not be", append(numbered(api.MaxSyms), "more", "?"), api.ErrMany},
		{"one that may not be, behind as many as may be", append(numbered(api.MaxSyms), "?", "more"), api.ErrForm},
		{"one that may not be, ahead of too many", append([]string{"?"}, numbered(api.MaxSyms+1)...), api.ErrForm},
	} {
		if s, e := syms.Of(c.l); s != nil || e != c.e {
			t.Errorf("P4.1: Of %s: %v, %d, not %d", c.what, s != nil, e, c.e)
		}
	}
}

func TestTheDocumentsExamples(t *testing.T) {
	s := syms.New()
	putting(t, s, "a", 0, api.OK)
	putting(t, s, "B_1", 1, api.OK)
	putting(t, s, "a", 0, api.OK)
	if name, is := s.Name(1); name != "B_1" || !is {
		t.Errorf("P4.2: Name of 1: %q, %v", name, is)
	}
	if n, is := s.Find("c"); n != 0 || is {
		t.Errorf("P4.2: Find of c: %d, %v", n, is)
	}
	for _, name := range []string{"", "a b", strings.Repeat("x", 33)} {
		putting(t, s, name, 0, api.ErrForm)
	}
	holds(t, "P4.2", s, []string{"a", "B_1"})
}

func TestPutOfNamesThatMayNotBe(t *testing.T) {
	s := syms.New()
	for _, name := range mayNotBe {
		putting(t, s, name, 0, api.ErrForm)
	}
	holds(t, "R2: none was put", s, nil)
	putting(t, s, "a", 0, api.OK)
	putting(t, s, "b", 1, api.OK)
	for _, name := range mayNotBe {
		putting(t, s, name, 0, api.ErrForm)
		if n, is := s.Find(name); n != 0 || is {
			t.Errorf("P4.2: Find of %q, which may not be: %d, %v", name, n, is)
		}
	}
	holds(t, "R2: no more was put", s, []string{"a", "b"})
}

// Names are told apart by all of their bytes, great and small.
func TestNamesThatAreNearlyAlike(t *testing.T) {
	long := strings.Repeat("x", 31)
	names := []string{"a", "A", "aa", "aA", "Aa", "_a", "a_", "0", "00", "o", "O", "_", "__", long, long + "x", long + "X", "X" + long, "x1", "x01"}
	s := syms.New()
	for i, name := range names {
		if n, is := s.Find(name); n != 0 || is {
			t.Errorf("P4.2: Find of %q, ahead of its Put: %d, %v", name, n, is)
		}
		putting(t, s, name, uint32(i), api.OK)
	}
	holds(t, "P4.2", s, names)
}

func TestAFullTable(t *testing.T) {
	s := syms.New()
	names := numbered(api.MaxSyms)
	for i, name := range names {
		putting(t, s, name, uint32(i), api.OK)
	}
	holds(t, "R7: as many as may be", s, names)
	for range 2 {
		putting(t, s, "more", 0, api.ErrMany)
		putting(t, s, "n4096", 0, api.ErrMany)
		putting(t, s, "?", 0, api.ErrForm)
		putting(t, s, "", 0, api.ErrForm)
		putting(t, s, "n0", 0, api.OK)
		putting(t, s, "n1", 1, api.OK)
		putting(t, s, "n4095", 4095, api.OK)
	}
	if n, is := s.Find("more"); n != 0 || is {
		t.Errorf("R2: Find of one that was not put: %d, %v", n, is)
	}
	holds(t, "R2: no more than may be", s, names)
}

func TestOfNoTable(t *testing.T) {
	var none *syms.Table
	for _, name := range slices.Concat(mayBe, mayNotBe) {
		putting(t, none, name, 0, api.ErrNil)
		if n, is := none.Find(name); n != 0 || is {
			t.Errorf("P4.2: Find of %q, of no table: %d, %v", name, n, is)
		}
	}
	holds(t, "P4.2: of no table", none, nil)
	if name, is := none.Name(0); name != "" || is {
		t.Errorf("P4.2: Name of 0, of no table: %q, %v", name, is)
	}
}

func TestATableThatDidNotComeOfNew(t *testing.T) {
	zero := new(syms.Table)
	holds(t, "R1: a zero value", zero, nil)
	putting(t, zero, "?", 0, api.ErrForm)
	putting(t, zero, "a", 0, api.OK)
	putting(t, zero, "b", 1, api.OK)
	holds(t, "R1: a zero value", zero, []string{"a", "b"})
}

func TestANumberStandsForOneNameForEver(t *testing.T) {
	s := syms.New()
	names := numbered(api.MaxSyms)
	for i, name := range names {
		putting(t, s, name, uint32(i), api.OK)
		putting(t, s, name+"?", 0, api.ErrForm)
		back := i / 2
		putting(t, s, names[back], uint32(back), api.OK)
		if got, is := s.Name(uint32(back)); got != names[back] || !is {
			t.Fatalf("P4.3: Name of %d, when there are %d: %q, %v", back, i+1, got, is)
		}
	}
	holds(t, "P4.3", s, names)
}

// What is asked and what is refused, in between, must say nothing to the numbers.
func TestOneOrderHasOneNumbering(t *testing.T) {
	r := rand.New(rand.NewSource(4))
	for range 50 {
		names := numbered(1 + r.Intn(60))
		r.Shuffle(len(names), func(i, j int) { names[i], names[j] = names[j], names[i] })
		plain, busy := made(t, names), syms.New()
		for i, name := range names {
			busy.Put("not this one")
			busy.Find("n" + strconv.Itoa(r.Intn(60)))
			busy.Put(names[r.Intn(max(i, 1))])
			busy.List()
			busy.Put(name)
		}
		holds(t, "P4.3: names in one order", plain, names)
		holds(t, "P4.3: the same, and more was asked", busy, plain.List())
	}
}

func TestWhatIsHandedInIsNotChangedAndNotKept(t *testing.T) {
	whole := []string{"a", "b", "a", "c", "room"}
	l, before := whole[:4], slices.Clone(whole)
	s := made(t, l)
	if !slices.Equal(whole, before) {
		t.Errorf("R3: the list that was handed in is changed: %q", whole)
	}
	for i := range whole {
		whole[i] = "other"
	}
	holds(t, "R3: the list was changed after", s, []string{"a", "b", "c"})
	putting(t, s, "d", 3, api.OK)
	if slices.ContainsFunc(whole, func(x string) bool { return x != "other" }) {
		t.Errorf("R3: the list that was handed in is changed later: %q", whole)
	}
}

// A name that is cut out of a text must not be a part of it any more: else the whole text is kept.
func TestTheTextOfANameIsNotKept(t *testing.T) {
	text := strings.Repeat("name ", 3)
	s := syms.New()
	putting(t, s, text[5:9], 0, api.OK)
	name, _ := s.Name(0)
	if name != "name" || unsafe.StringData(name) == unsafe.StringData(text[5:9]) || unsafe.StringData(s.List()[0]) == unsafe.StringData(text[5:9]) {
		t.Errorf("R3: the name %q is kept with its text", name)
	}
}

func TestListIsNewMemory(t *testing.T) {
	s := made(t, []string{"a", "b", "c"})
	one, two := s.List(), s.List()
	one[0] = "spoilt"
	one = append(one[:1], "spoilt", "spoilt", "spoilt", "spoilt")
	if !slices.Equal(two, []string{"a", "b", "c"}) {
		t.Errorf("R3: two lists hang together: %q, %q", one, two)
	}
	holds(t, "P4.2: a list was written to", s, []string{"a", "b", "c"})
	putting(t, s, "d", 3, api.OK)
	if !slices.Equal(two, []string{"a", "b", "c"}) || slices.Contains(two[:cap(two)], "d") {
		t.Errorf("R3: a list hangs on what is put later: %q", two[:cap(two)])
	}
	two = append(two, "spoilt")
	holds(t, "P4.2: a list was put to", s, []string{"a", "b", "c", "d"})
}

// told is a table as the document tells it, of a list alone.
type told []string

func (l *told) put(name string) (uint32, api.Errno) {
	if !formOfNames.MatchString(name) {
		return 0, api.ErrForm
	}
	if i := slices.Index(*l, name); i >= 0 {
		return uint32(i), api.OK
	}
	if len(*l) >= api.MaxSyms {
		return 0, api.ErrMany
	}
	*l = append(*l, name)
	return uint32(len(*l) - 1), api.OK
}

func FuzzPuts(f *testing.F) {
	f.Add("a B_1 a c")
	f.Add("a  b\x00c ? " + strings.Repeat("x", 33) + " a")
	f.Add(strings.Join(mayBe, " ") + " " + strings.Join(mayNotBe, " "))
	f.Fuzz(func(t *testing.T, text string) {
		s, want := syms.New(), told{}
		first := api.OK
		l := strings.Split(text, " ")
		for _, name := range l {
			if got := syms.May(name); got != formOfNames.MatchString(name) {
				t.Errorf("P4.1: May of %q: %v", name, got)
			}
			n, e := want.put(name)
			putting(t, s, name, n, e)
			if first == api.OK {
				first = e
			}
		}
		holds(t, "P4.2", s, want)
		of, e := syms.Of(l)
		if e != first || (of == nil) != (e != api.OK) {
			t.Errorf("P4.1: Of %q: %v, %d, not %d", l, of != nil, e, first)
		}
		if of != nil {
			holds(t, "P4.1: Of", of, want)
		}
	})
}
