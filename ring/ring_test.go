package ring_test

import (
	"bytes"
	"fmt"
	"math"
	"math/rand"
	"slices"
	"strings"
	"testing"

	"bailey/api"
	"bailey/ring"
)

// edges are numbers at the edges of what a number can be, rising.
var edges = []uint32{0, 1, 2, 1<<8 - 1, 1 << 8, 1<<16 - 1, 1 << 16, 1<<31 - 1, 1 << 31, 1<<31 + 1, math.MaxUint32 - 1, math.MaxUint32}

// told is a ring as the document tells it: who has which key, in the order in which these came.
type told []has

type has struct {
	who uint32
	key string
}

func (l told) at(who uint32) int {
	return slices.IndexFunc(l, func(h has) bool { return h.who == who })
}

func (l *told) put(who uint32, key []byte) api.Errno {
	if len(key) == 0 || len(key) > 64 {
		return api.ErrArg
	}
	if l.at(who) >= 0 {
		return api.ErrAgain
	}
	if len(*l) == 32 {
		return api.ErrFull
	}
	*l = append(*l, has{who, string(key)})
	return api.OK
}

func (l *told) drop(who uint32) api.Errno {
	at := l.at(who)
	if at < 0 {
		return api.ErrNone
	}
	*l = slices.Delete(slices.Clone(*l), at, at+1)
	return api.OK
}

func (l told) list() (all []uint32) {
	for _, h := range l {
		all = append(all, h.who)
	}
	slices.Sort(all)
	return all
}

// short is what is handed in as it may be told when something is wrong.
func short(b []byte) string { return fmt.Sprintf("%d bytes %x", len(b), b[:min(len(b), 8)]) }

// puts, drops and keys hold a call against what is told of the ring.
func puts(t *testing.T, what string, r *ring.Ring, want *told, who uint32, key []byte) {
	t.Helper()
	if got, e := r.Put(who, key), want.put(who, key); got != e {
		t.Errorf("%s: Put of %d, %s: %d, not %d", what, who, short(key), got, e)
	}
}

func drops(t *testing.T, what string, r *ring.Ring, want *told, who uint32) {
	t.Helper()
	if got, e := r.Drop(who), want.drop(who); got != e {
		t.Errorf("%s: Drop of %d: %d, not %d", what, who, got, e)
	}
}

func keys(t *testing.T, what string, r *ring.Ring, want told, who uint32) {
	t.Helper()
	key, is := r.Key(who)
	if at := want.at(who); at < 0 && (len(key) != 0 || is) {
		t.Errorf("%s: Key of %d, who has none: %s, %v", what, who, short(key), is)
	} else if at >= 0 && (string(key) != want[at].key || !is) {
		t.Errorf("%s: Key of %d: %s, %v, not %s", what, who, short(key), is, short([]byte(want[at].key)))
	}
}

// holds: has the ring just these keys, whichever call tells it?
func holds(t *testing.T, what string, r *ring.Ring, want told) {
	t.Helper()
	if l := r.List(); !slices.Equal(l, want.list()) {
		t.Errorf("%s: List: %v, not %v", what, l, want.list())
	}
	for _, h := range want {
		for _, who := range []uint32{h.who, h.who + 1, h.who - 1, h.who ^ 1<<31, h.who ^ 1<<16} {
			keys(t, what, r, want, who)
		}
	}
	for _, who := range edges {
		keys(t, what, r, want, who)
	}
}

// keyOf is one that is another one for each who.
func keyOf(who uint32) []byte { return fmt.Appendf(nil, "key %d", who) }

// made is a ring in which these have keys, and what is told of it.
func made(t *testing.T, l ...uint32) (*ring.Ring, told) {
	t.Helper()
	r, want := ring.New(), told{}
	for _, who := range l {
		puts(t, "P18.1: a ring that is made", r, &want, who, keyOf(who))
	}
	return r, want
}

// numbers are so many, far from each other, not rising.
func numbers(n int) (l []uint32) {
	for i := range n {
		l = append(l, uint32(i)*2654435761)
	}
	return l
}

func TestTheDocumentsExamples(t *testing.T) {
	r := ring.New()
	if e := r.Put(5, []byte("ab")); e != api.OK {
		t.Errorf("P18.1: Put of 5: %d", e)
	}
	if e := r.Put(5, []byte("ab")); e != api.ErrAgain {
		t.Errorf("P18.1: Put of 5, again: %d", e)
	}
	if e := r.Drop(6); e != api.ErrNone {
		t.Errorf("P18.1: Drop of 6: %d", e)
	}
	if l := r.List(); len(l) != 1 || l[0] != 5 {
		t.Errorf("P18.1: List: %v", l)
	}
	holds(t, "P18.1", r, told{{5, "ab"}})
}

func TestNewIsWithoutKeys(t *testing.T) {
	r, want := ring.New(), told{}
	if r == nil {
		t.Fatal("P18.1: New answers no ring")
	}
	holds(t, "P18.1: New", r, want)
	for _, who := range edges {
		drops(t, "P18.1: New", r, &want, who)
	}
	holds(t, "P18.1: New, and nothing to drop", r, want)
	puts(t, "P18.1: New", r, &want, 7, []byte("k"))
	holds(t, "P18.1: the first key", r, want)
}

func TestRingsOfTheirOwn(t *testing.T) {
	one, two := ring.New(), ring.New()
	oneWant, twoWant := told{}, told{}
	puts(t, "P18.1", one, &oneWant, 1, []byte("a"))
	puts(t, "P18.1", two, &twoWant, 1, []byte("b"))
	puts(t, "P18.1", two, &twoWant, 2, []byte("c"))
	drops(t, "P18.1", one, &oneWant, 2)
	holds(t, "P18.1: one of two rings", one, oneWant)
	holds(t, "P18.1: the other one", two, twoWant)
	drops(t, "P18.1", one, &oneWant, 1)
	holds(t, "P18.1: one of two rings", one, oneWant)
	holds(t, "P18.1: the other one", two, twoWant)
}

func TestEachLengthOfAKey(t *testing.T) {
	for n := range 300 {
		r, want := ring.New(), told{}
		e := r.Put(5, bytes.Repeat([]byte{'k'}, n))
		if may := n >= 1 && n <= 64; may != (e == api.OK) || !may && e != api.ErrArg {
			t.Errorf("P18.1: Put of %d bytes: %d", n, e)
		}
		want.put(5, bytes.Repeat([]byte{'k'}, n))
		holds(t, "P18.1: a key of each length", r, want)
	}
	r, want := made(t, 1, 2)
	for _, key := range [][]byte{nil, {}, make([]byte, 64)[:0], make([]byte, 65), make([]byte, 1<<16), make([]byte, 1<<16+1), make([]byte, 1<<24)} {
		for _, who := range []uint32{0, 1, 2, 3} {
			if e := r.Put(who, key); e != api.ErrArg {
				t.Errorf("P18.1: Put of %s: %d", short(key), e)
			}
			holds(t, "R2: a key that may not be", r, want)
		}
	}
}

// A key is bytes: any, noughts too, and each at its place.
func TestEachByteOfAKey(t *testing.T) {
	for c := range 256 {
		r, want := ring.New(), told{}
		for n := 1; n <= 4; n++ {
			for at := range n {
				key := bytes.Repeat([]byte{0xa5}, n)
				key[at] = byte(c)
				puts(t, "P18.1", r, &want, uint32(10*n+at), key)
			}
		}
		puts(t, "P18.1", r, &want, 1, bytes.Repeat([]byte{byte(c)}, 64))
		puts(t, "P18.1", r, &want, 2, append(make([]byte, 63), byte(c)))
		puts(t, "P18.1", r, &want, 3, append([]byte{byte(c)}, make([]byte, 63)...))
		holds(t, "P18.1: each byte", r, want)
	}
}

func TestOneKeyOfMany(t *testing.T) {
	r, want := ring.New(), told{}
	for _, who := range edges {
		puts(t, "P18.1: the same key", r, &want, who, []byte("same"))
	}
	holds(t, "P18.1: the same key", r, want)
	drops(t, "P18.1: the same key", r, &want, edges[3])
	holds(t, "P18.1: one of them has it no more", r, want)
}

func TestEachNumber(t *testing.T) {
	for bit := range 32 {
		for _, who := range []uint32{1 << bit, 1<<bit - 1, 1<<bit + 1, ^uint32(1 << bit)} {
			r, want := made(t, who)
			holds(t, "P18.1: each number", r, want)
			drops(t, "P18.1: another number", r, &want, who+1)
			drops(t, "P18.1: each number", r, &want, who)
			holds(t, "P18.1: each number, and dropped", r, want)
		}
	}
	r, want := made(t, edges...)
	holds(t, "P18.1: the edges of numbers", r, want)
}

func TestWhoHasOneKeepsIt(t *testing.T) {
	for _, first := range []string{"a", "ab", strings.Repeat("k", 64)} {
		for _, then := range []string{"a", "b", "ab", "abc", "\x00", strings.Repeat("k", 64)} {
			r, want := made(t, 4, 6)
			puts(t, "P18.1", r, &want, 5, []byte(first))
			for range 2 {
				if e := r.Put(5, []byte(then)); e != api.ErrAgain {
					t.Errorf("P18.1: Put of %q, who has %q: %d", then, first, e)
				}
				holds(t, "P18.1: who has one keeps it", r, append(slices.Clone(want[:2]), has{5, first}))
			}
			drops(t, "P18.1", r, &want, 5)
			puts(t, "P18.1: dropped, and another one", r, &want, 5, []byte(then))
			holds(t, "P18.1: dropped, and another one", r, append(slices.Clone(want[:2]), has{5, then}))
		}
	}
}

func TestDropOfEach(t *testing.T) {
	for n := range 7 {
		for _, gone := range append(numbers(n), 1, 3, math.MaxUint32) {
			r, want := made(t, numbers(n)...)
			drops(t, "P18.1", r, &want, gone)
			holds(t, "P18.1: one is dropped", r, want)
			if e := r.Drop(gone); e != api.ErrNone {
				t.Errorf("P18.1: Drop of %d, again: %d", gone, e)
			}
			holds(t, "P18.1: one is dropped, again", r, want)
		}
	}
}

func TestAFullRing(t *testing.T) {
	all := numbers(33)
	more := all[32]
	for n := range 33 {
		r, want := made(t, all[:n]...)
		if e := r.Put(more, []byte("k")); (e == api.ErrFull) != (n == 32) || n < 32 && e != api.OK {
			t.Errorf("P18.1: Put, where %d have keys: %d", n, e)
		}
		want.put(more, []byte("k"))
		holds(t, "R7: as many as may be", r, want)
	}
	for _, gone := range all[:32] {
		r, want := made(t, all[:32]...)
		for _, who := range []uint32{more, 1, math.MaxUint32} {
			puts(t, "P18.1: one more than may be", r, &want, who, []byte("k"))
		}
		puts(t, "P18.1: full, and who has one", r, &want, gone, []byte("k"))
		drops(t, "P18.1: full, and none to drop", r, &want, more)
		holds(t, "R2: a full ring", r, want)
		drops(t, "P18.1: full", r, &want, gone)
		puts(t, "P18.1: room again", r, &want, more, []byte("k"))
		puts(t, "P18.1: full again", r, &want, gone, []byte("k"))
		holds(t, "P18.1: another one in its place", r, want)
	}
}

// What has gone leaves nothing behind that could fill a ring.
func TestManyComeAndGo(t *testing.T) {
	r, want := made(t, numbers(31)...)
	for i := range uint32(5000) {
		who := 7 + 2*i
		puts(t, "P18.1", r, &want, who, keyOf(i))
		keys(t, "P18.1", r, want, who)
		drops(t, "P18.1", r, &want, who)
		keys(t, "P18.1", r, want, who)
	}
	holds(t, "P18.1: many came and went", r, want)
	for _, who := range numbers(31) {
		drops(t, "P18.1", r, &want, who)
	}
	holds(t, "P18.1: all went", r, told{})
}

// Each two errors at once: the first one that the chapter names is answered.
func TestWhichErrorGoesAhead(t *testing.T) {
	bad, good := [][]byte{nil, {}, make([]byte, 65)}, [][]byte{{0}, make([]byte, 64), keyOf(0)}
	for _, c := range []struct {
		what string
		n    int
		who  uint32
		good api.Errno
	}{
		{"room, has none", 31, 5, api.OK},
		{"room, has one", 31, 0, api.ErrAgain},
		{"full, has none", 32, 5, api.ErrFull},
		{"full, has one", 32, 0, api.ErrAgain},
	} {
		for i, key := range slices.Concat(bad, good) {
			r, want := made(t, numbers(c.n)...)
			e := c.good
			if i < len(bad) {
				e = api.ErrArg
			}
			if got := r.Put(c.who, key); got != e {
				t.Errorf("P18.1: %s: Put of %s: %d, not %d", c.what, short(key), got, e)
			}
			want.put(c.who, key)
			holds(t, "R2: "+c.what, r, want)
			var none *ring.Ring
			if got := none.Put(c.who, key); got != api.ErrNil {
				t.Errorf("P18.1: no ring: Put of %s: %d", short(key), got)
			}
		}
	}
}

func TestOfNoRing(t *testing.T) {
	var none *ring.Ring
	for range 2 {
		for _, who := range edges {
			for _, key := range [][]byte{nil, {}, {1}, make([]byte, 64), make([]byte, 65)} {
				if e := none.Put(who, key); e != api.ErrNil {
					t.Errorf("R4: Put of %d, %s, of no ring: %d", who, short(key), e)
				}
			}
			if e := none.Drop(who); e != api.ErrNil {
				t.Errorf("R4: Drop of %d, of no ring: %d", who, e)
			}
		}
		holds(t, "P18.1: of no ring nothing", none, nil)
	}
}

func TestARingThatDidNotComeOfNew(t *testing.T) {
	zero, want := new(ring.Ring), told{}
	holds(t, "R1: a zero value", zero, want)
	drops(t, "R1: a zero value", zero, &want, 0)
	puts(t, "R1: a zero value", zero, &want, 0, nil)
	puts(t, "R1: a zero value", zero, &want, 0, []byte("k"))
	puts(t, "R1: a zero value", zero, &want, 1, []byte("l"))
	drops(t, "R1: a zero value", zero, &want, 0)
	holds(t, "R1: a zero value", zero, want)
}

// Who has which key does not hang on the order in which these came.
func TestAllOrders(t *testing.T) {
	all := []uint32{3, 0, math.MaxUint32, 1 << 31, 4}
	var orders [][]uint32
	var order func(l, rest []uint32)
	order = func(l, rest []uint32) {
		if len(rest) == 0 {
			orders = append(orders, slices.Clone(l))
		}
		for i := range rest {
			order(append(slices.Clone(l), rest[i]), slices.Delete(slices.Clone(rest), i, i+1))
		}
	}
	order(nil, all)
	if len(orders) != 120 {
		t.Fatalf("%d orders", len(orders))
	}
	_, want := made(t, all...)
	for _, l := range orders {
		r, _ := made(t, l...)
		holds(t, "R5: another order", r, want)
		left := slices.Clone(want)
		for _, who := range l {
			drops(t, "R5: another order", r, &left, who)
			holds(t, "R5: dropped in another order", r, left)
		}
	}
}

// All short ways to put and to drop, with keys that may be and one that may not.
func TestAllShortWays(t *testing.T) {
	steps := []func(what string, r *ring.Ring, want *told){}
	for _, who := range []uint32{0, math.MaxUint32} {
		for _, key := range []string{"a", "b", ""} {
			steps = append(steps, func(what string, r *ring.Ring, want *told) { puts(t, what, r, want, who, []byte(key)) })
		}
		steps = append(steps, func(what string, r *ring.Ring, want *told) { drops(t, what, r, want, who) })
	}
	const most = 5
	for way := range 1 << (3 * most) { // eight steps: three bits each
		r, want := ring.New(), told{}
		what := fmt.Sprintf("P18.1: the way %o", way)
		for i := range most {
			steps[way>>(3*i)&7](what, r, &want)
			keys(t, what, r, want, 0)
			keys(t, what, r, want, math.MaxUint32)
		}
		if l := r.List(); !slices.Equal(l, want.list()) {
			t.Errorf("%s: List: %v, not %v", what, l, want.list())
		}
	}
}

func TestWhatIsAskedTurnsNothing(t *testing.T) {
	r, want := made(t, 9, 2, 5)
	for range 3 {
		for _, who := range append(slices.Clone(edges), 9, 2, 5) {
			r.Key(who)
			r.List()
			keys(t, "R5: what was asked", r, want, who)
		}
		puts(t, "R2", r, &want, 9, []byte("x"))
		puts(t, "R2", r, &want, 3, nil)
		puts(t, "R2", r, &want, 9, make([]byte, 65))
		drops(t, "R2", r, &want, 4)
		holds(t, "R2: what was refused", r, want)
	}
}

func TestWhatIsHandedInIsNotChangedAndNotKept(t *testing.T) {
	for _, n := range []int{1, 2, 31, 32, 33, 63, 64} {
		whole := bytes.Repeat([]byte("abcdefgh"), 16)
		before := slices.Clone(whole)
		r, want := ring.New(), told{}
		puts(t, "P18.1", r, &want, 1, whole[:n])
		puts(t, "P18.1", r, &want, 2, whole[1:n+1])
		puts(t, "P18.1", r, &want, 1, whole[2:n+1])
		puts(t, "P18.1", r, &want, 3, whole[:0])
		puts(t, "P18.1", r, &want, 3, whole[:65])
		holds(t, "R3: two keys of one list", r, want)
		if !bytes.Equal(whole, before) {
			t.Errorf("R3: the key that was handed in is changed: %q", whole)
		}
		for i := range whole {
			whole[i] = 'x'
			holds(t, "R3: the key was changed after", r, want)
		}
		drops(t, "P18.1", r, &want, 1)
		puts(t, "P18.1", r, &want, 1, []byte("other"))
		if strings.Trim(string(whole), "x") != "" {
			t.Errorf("R3: the key that was handed in is changed later: %q", whole)
		}
	}
}

// spoil writes to all that a key has, and to the room behind its end.
func spoil(key []byte) {
	key = key[:cap(key)]
	for i := range key {
		key[i] ^= 0xff
	}
}

func TestKeyIsNewMemory(t *testing.T) {
	for _, n := range []int{1, 2, 31, 33, 63, 64} {
		r, want := made(t, 5)
		puts(t, "P18.1", r, &want, 6, bytes.Repeat([]byte("k"), n))
		one, _ := r.Key(6)
		two, _ := r.Key(6)
		spoil(one)
		if string(two) != want[1].key {
			t.Errorf("R3: two answers of Key hang together: %s", short(two))
		}
		holds(t, "R3: what Key told was written to", r, want)
		_ = append(two[:0], "spoilt"...)
		holds(t, "R3: what Key told was put to", r, want)
		kept, _ := r.Key(6)
		drops(t, "P18.1", r, &want, 6)
		puts(t, "P18.1", r, &want, 6, bytes.Repeat([]byte("l"), n))
		if string(kept) != strings.Repeat("k", n) {
			t.Errorf("R3: what Key told hangs on what is done later: %s", short(kept))
		}
		spoil(kept)
		holds(t, "R3: what Key told ahead of a Drop was written to", r, want)
	}
}

func TestListIsNewMemory(t *testing.T) {
	for _, n := range []int{1, 2, 3, 31, 32} {
		r, want := made(t, numbers(n)...)
		one, two := r.List(), r.List()
		clear(one[:cap(one)])
		if !slices.Equal(two, want.list()) {
			t.Errorf("R3: two answers of List hang together: %v", two)
		}
		holds(t, "R3: what List told was written to", r, want)
		_ = append(two[:0], 99, 99, 99)
		holds(t, "R3: what List told was put to", r, want)
		kept, was := r.List(), want.list()
		drops(t, "P18.1", r, &want, numbers(n)[0])
		puts(t, "P18.1", r, &want, 1, []byte("k"))
		if !slices.Equal(kept, was) {
			t.Errorf("R3: what List told hangs on what is done later: %v", kept)
		}
		holds(t, "P18.1: another one in its place", r, want)
	}
}

// asTold does to two rings what bytes say, and holds them against the document.
func asTold(t *testing.T, b []byte) {
	t.Helper()
	take := func() int {
		if len(b) == 0 {
			return 0
		}
		n := b[0]
		b = b[1:]
		return int(n)
	}
	lengths := []int{1, 2, 64, 63, 33, 0, 65, 3}
	rings, want := []*ring.Ring{ring.New(), ring.New()}, []told{{}, {}}
	for len(b) > 0 {
		what, who := take(), numbers(48)[take()%48]
		r, w := rings[what&1], &want[what&1]
		switch what >> 1 % 8 {
		case 0, 1, 2, 3:
			size := take()
			puts(t, "P18.1", r, w, who, bytes.Repeat([]byte{byte(size)}, lengths[size%8]))
		case 4, 5:
			drops(t, "P18.1", r, w, who)
		case 6:
			keys(t, "P18.1", r, *w, who)
		case 7:
			holds(t, "P18.1", r, *w)
		}
	}
	for i := range rings {
		holds(t, "P18.1", rings[i], want[i])
	}
}

func TestManyByChance(t *testing.T) {
	r := rand.New(rand.NewSource(18))
	for range 3000 {
		b := make([]byte, r.Intn(1000))
		r.Read(b)
		asTold(t, b)
	}
}

func FuzzAsTold(f *testing.F) {
	f.Add([]byte{})
	f.Add([]byte{0, 5, 1, 0, 5, 1, 8, 6, 14, 0, 12, 5, 8, 5, 12, 5})
	var full []byte
	for who := range byte(40) {
		full = append(full, 0, who, who)
	}
	f.Add(append(full, 8, 3, 0, 39, 2, 14))
	f.Fuzz(func(t *testing.T, b []byte) { asTold(t, b[:min(len(b), 4000)]) })
}
