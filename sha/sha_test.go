package sha_test

import (
	"bytes"
	"crypto/sha256"
	"encoding/hex"
	"math/rand"
	"strings"
	"testing"

	"bailey/api"
	"bailey/sha"
)

const sumOfNothing = "e3b0c44298fc1c149afbf4c8996fb92427ae41e4649b934ca495991b7852b855"

// known are byte strings whose sums have been told by others: the document's examples, and those of FIPS 180-4 and of its test vectors.
var known = []struct{ s, sum string }{
	{"", sumOfNothing},
	{"abc", "ba7816bf8f01cfea414140de5dae2223b00361a396177a9cb410ff61f20015ad"},
	{"abcdbcdecdefdefgefghfghighijhijkijkljklmklmnlmnomnopnopq", "248d6a61d20638b8e5c026930c3e6039a33ce45964ff2167f6ecedd419db06c1"},
	{"abcdefghbcdefghicdefghijdefghijkefghijklfghijklmghijklmnhijklmnoijklmnopjklmnopqklmnopqrlmnopqrsmnopqrstnopqrstu", "cf5b16a778af8380036ce59e7b0492370b249b11e8f07a51afac45037afee9d1"},
	{"\xbd", "68325720aabd7c82f30f554b313d0570c95accbb7dc4b5aae11204c08ffe732b"},
	{"\xc9\x8c\x8e\x55", "7abc22c0ae5af26ce93dbb94433a0e0b2e119d014f8e7f65bd56c61ccccd9504"},
	{strings.Repeat("\x00", 55), "02779466cdec163811d078815c633f21901413081449002f24aa3e80f0b88ef7"},
	{strings.Repeat("\x00", 56), "d4817aa5497628e7c77e6b606107042bbba3130888c5f47a375e6179be789fbb"},
	{strings.Repeat("\x00", 57), "65a16cb7861335d5ace3c60718b5052e44660726da4cd13bb745381b235a1785"},
	{strings.Repeat("\x00", 64), "f5a5fd42d16a20302798ef6ed309979b43003d2320d9f0e8ea9831a92759fb4b"},
	{strings.Repeat("\x00", 1000), "541b3e9daa09b20bf85fa273e5cbd3e80185aa4ec298e765db87742b70138a53"},
	{strings.Repeat("A", 1000), "c2e686823489ced2017f6059b8b239318b6364f6dcd835d0a519105a1eadd6e4"},
	{strings.Repeat("a", 1000000), "cdc76e5c9914fb9281a1c7e284d73e67f1809a48a497200e046d39ccc7112cd0"},
}

// edgeLengths are those at which a block is full, the padding needs one more, or the length gains a byte or a bit, with their neighbours.
func edgeLengths() []int {
	var l []int
	for n := range 4*64 + 2 {
		l = append(l, n)
	}
	for bit := 9; bit <= 21; bit++ {
		for _, less := range []int{10, 9, 8, 1, 0, -1} {
			l = append(l, 1<<bit-less)
		}
	}
	return l
}

// mixed are so many bytes of all kinds, the same each time.
func mixed(n int) []byte {
	b := make([]byte, n)
	rand.New(rand.NewSource(int64(n))).Read(b)
	return b
}

func spoil(b []byte) {
	for i := range b {
		b[i] ^= 0xff
	}
}

func want(b []byte) api.Tag { return sha256.Sum256(b) }

func written(t *testing.T, s *sha.State, b []byte) {
	t.Helper()
	if e := s.Write(b); e != api.OK {
		t.Fatalf("P2.2: Write of %d bytes: %d", len(b), e)
	}
}

func isSumOf(t *testing.T, promise string, s *sha.State, b []byte) {
	t.Helper()
	if got := s.Sum(); got != want(b) {
		t.Fatalf("%s: of %d bytes: %x, not %x", promise, len(b), got, want(b))
	}
}

func TestSumOfWhatIsKnown(t *testing.T) {
	for _, c := range known {
		if got := sha.Sum([]byte(c.s)); hex.EncodeToString(got[:]) != c.sum {
			t.Errorf("P2.1: Sum of %.20q, %d bytes: %x, not %s", c.s, len(c.s), got, c.sum)
		}
		s := sha.New()
		written(t, s, []byte(c.s))
		if got := s.Sum(); hex.EncodeToString(got[:]) != c.sum {
			t.Errorf("P2.2: the state's Sum of %.20q, %d bytes: %x, not %s", c.s, len(c.s), got, c.sum)
		}
	}
}

func TestSumAtAllEdges(t *testing.T) {
	for _, n := range edgeLengths() {
		for _, b := range [][]byte{mixed(n), make([]byte, n), bytes.Repeat([]byte{0xff}, n), bytes.Repeat([]byte{0x80}, n)} {
			if got := sha.Sum(b); got != want(b) {
				t.Fatalf("P2.1: Sum of %d bytes, %.8x: %x, not %x", n, b, got, want(b))
			}
		}
	}
}

// Beyond 2^29 bytes their number's bits need more than 4 bytes.
func TestSumBeyondFourBytesOfLength(t *testing.T) {
	if testing.Short() {
		t.Skip("half a gigabyte is hashed")
	}
	part := mixed(1 << 20)
	s, other := sha.New(), sha256.New()
	for range 1<<9 + 1 {
		written(t, s, part)
		other.Write(part)
	}
	if got := s.Sum(); !bytes.Equal(got[:], other.Sum(nil)) {
		t.Errorf("P2.1: Sum of %d bytes: %x, not %x", 513<<20, got, other.Sum(nil))
	}
}

func TestSumOfNothing(t *testing.T) {
	for name, got := range map[string]api.Tag{
		"no list":       sha.Sum(),
		"a nil list":    sha.Sum([][]byte(nil)...),
		"an empty list": sha.Sum([][]byte{}...),
		"nil":           sha.Sum(nil),
		"empty":         sha.Sum([]byte{}),
		"many of both":  sha.Sum(nil, []byte{}, nil, []byte{}),
		"a new state":   sha.New().Sum(),
	} {
		if hex.EncodeToString(got[:]) != sumOfNothing {
			t.Errorf("P2.1: Sum of nothing (%s): %x", name, got)
		}
	}
}

func TestSumOfParts(t *testing.T) {
	b := mixed(200)
	for i := range len(b) + 1 {
		for j := i; j <= len(b); j++ {
			if sha.Sum(b[:i], b[i:j], b[j:]) != want(b) {
				t.Fatalf("P2.1: Sum of parts that end at %d and %d", i, j)
			}
		}
	}
	if sha.Sum([]byte("a"), []byte("b")) == sha.Sum([]byte("b"), []byte("a")) {
		t.Error("P2.1: the order of the parts says nothing")
	}
	if sha.Sum(b, b) != want(append(bytes.Clone(b), b...)) {
		t.Error("P2.1: Sum of the same part twice")
	}
}

func TestParts(t *testing.T) {
	for size := 1; size <= 2*64+2; size++ {
		b := mixed(5*64 + 7)
		s := sha.New()
		for at := 0; at < len(b); at += size {
			end := min(at+size, len(b))
			written(t, s, b[at:end])
			isSumOf(t, "P2.3", s, b[:end])
		}
	}
}

func TestPartsOfAnyLengths(t *testing.T) {
	r := rand.New(rand.NewSource(1))
	for range 300 {
		b := mixed(r.Intn(2000))
		s, at := sha.New(), 0
		for at < len(b) {
			end := min(at+r.Intn(300), len(b))
			written(t, s, b[at:end])
			at = end
		}
		isSumOf(t, "P2.3", s, b)
	}
}

func TestNothingThatIsWrittenTurnsNothing(t *testing.T) {
	for _, n := range edgeLengths()[:200] {
		b := mixed(n)
		s := sha.New()
		written(t, s, nil)
		written(t, s, b)
		written(t, s, []byte{})
		written(t, s, nil)
		isSumOf(t, "P2.2", s, b)
	}
}

func TestMoreIsWrittenBehindASum(t *testing.T) {
	for n := range 130 {
		b := mixed(2 * n)
		s := sha.New()
		written(t, s, b[:n])
		isSumOf(t, "P2.2", s, b[:n])
		isSumOf(t, "P2.2: again", s, b[:n])
		written(t, s, b[n:])
		isSumOf(t, "P2.2: more", s, b)
	}
}

func TestForksDoNotHangTogether(t *testing.T) {
	for n := range 130 {
		b := mixed(n)
		s := sha.New()
		written(t, s, b)
		u := s.Fork()
		if u == nil || u == s {
			t.Fatal("P2.2: Fork answers no other state")
		}
		isSumOf(t, "P2.2: Fork", u, b)
		one, two := append(bytes.Clone(b), mixed(77)...), append(bytes.Clone(b), mixed(78)...)
		written(t, s, one[n:])
		isSumOf(t, "P2.2: Fork, the first written to", u, b)
		written(t, u, two[n:])
		isSumOf(t, "P2.2: Fork, both written to", s, one)
		isSumOf(t, "P2.2: Fork, both written to", u, two)
		v := u.Fork()
		written(t, v, one)
		isSumOf(t, "P2.2: Fork of a fork", v, append(bytes.Clone(two), one...))
		isSumOf(t, "P2.2: Fork of a fork", u, two)
	}
}

func TestStatesDoNotHangTogether(t *testing.T) {
	s, u := sha.New(), sha.New()
	if s == u {
		t.Fatal("P2.2: New answers the same state twice")
	}
	written(t, s, []byte("ab"))
	isSumOf(t, "P2.2", u, nil)
	written(t, u, []byte("xyz"))
	written(t, s, []byte("c"))
	isSumOf(t, "P2.2", s, []byte("abc"))
	isSumOf(t, "P2.2", u, []byte("xyz"))
	isSumOf(t, "P2.2", sha.New(), nil)
}

func TestOfNoState(t *testing.T) {
	var none *sha.State
	for _, b := range [][]byte{nil, {}, []byte("a"), mixed(64), mixed(1000)} {
		if e := none.Write(b); e != api.ErrNil {
			t.Errorf("P2.2: Write of %d bytes to no state: %d", len(b), e)
		}
	}
	if none.Fork() != nil {
		t.Error("P2.2: Fork of no state answers one")
	}
	if got := none.Sum(); got != (api.Tag{}) {
		t.Errorf("P2.2: Sum of no state: %x", got)
	}
}

func TestWhatIsHandedInIsNotChangedAndNotKept(t *testing.T) {
	for n := range 200 {
		whole := mixed(n + 100) // with room behind the end
		before := bytes.Clone(whole)
		s := sha.New()
		written(t, s, whole[:n])
		u := s.Fork()
		got := sha.Sum(whole[:n], whole[:n/2])
		s.Sum()
		if !bytes.Equal(whole, before) {
			t.Fatalf("R3: what is handed in, %d bytes, is changed", n)
		}
		spoil(whole)
		isSumOf(t, "R3: Write keeps what it was handed", s, before[:n])
		isSumOf(t, "R3: Fork keeps what was handed in", u, before[:n])
		if got != want(append(bytes.Clone(before[:n]), before[:n/2]...)) {
			t.Fatalf("R3: Sum of %d bytes and of %d", n, n/2)
		}
	}
}

func TestTheListOfPartsIsNotChanged(t *testing.T) {
	l := [][]byte{[]byte("a"), nil, []byte("bc"), []byte("room")}
	sha.Sum(l[:3]...)
	if len(l) != 4 || string(l[0]) != "a" || l[1] != nil || string(l[2]) != "bc" || string(l[3]) != "room" {
		t.Errorf("R3: Sum changed the list that it was handed: %q", l)
	}
}

func FuzzParts(f *testing.F) {
	f.Add([]byte("abc"), 1, 2)
	f.Add(mixed(64), 0, 64)
	f.Add(mixed(120), 55, 56)
	f.Fuzz(func(t *testing.T, b []byte, i, j int) {
		if i < 0 || i > j || j > len(b) {
			return
		}
		s := sha.New()
		written(t, s, b[:i])
		written(t, s, b[i:j])
		u := s.Fork()
		isSumOf(t, "P2.2", s, b[:j])
		written(t, u, b[j:])
		isSumOf(t, "P2.3", u, b)
		isSumOf(t, "P2.2: Fork", s, b[:j])
		if sha.Sum(b[:i], b[i:j], b[j:]) != want(b) {
			t.Errorf("P2.1: Sum of %x in parts that end at %d and %d", b, i, j)
		}
	})
}
