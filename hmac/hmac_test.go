package hmac_test

import (
	"bytes"
	stdhmac "crypto/hmac"
	"crypto/sha256"
	"encoding/hex"
	"errors"
	"math/rand"
	"strings"
	"testing"

	"bailey/api"
	"bailey/hmac"
	"bailey/sha"
)

// known are tags that have been told by others: the document's examples, those of RFC 4231 (but the one that is cut short there), and of nothing under no key.
var known = []struct{ key, message, tag string }{
	{strings.Repeat("\x0b", 20), "Hi There", "b0344c61d8db38535ca8afceaf0bf12b881dc200c9833da726e9376c2e32cff7"},
	{"Jefe", "what do ya want for nothing?", "5bdcc146bf60754e6a042426089575c75a003f089d2739839dec58b964ec3843"},
	{strings.Repeat("\xaa", 20), strings.Repeat("\xdd", 50), "773ea91e36800e46854db8ebd09181a72959098b3ef8c122d9635514ced565fe"},
	{"\x01\x02\x03\x04\x05\x06\x07\x08\x09\x0a\x0b\x0c\x0d\x0e\x0f\x10\x11\x12\x13\x14\x15\x16\x17\x18\x19", strings.Repeat("\xcd", 50), "82558a389a443c0ea4cc819899f2083a85f0faa3e578f8077a2e3ff46729665b"},
	{strings.Repeat("\xaa", 131), "Test Using Larger Than Block-Size Key - Hash Key First", "60e431591ee0b67f0d8a26aacbf5b77f8e0bc6213728c5140546040f0ee37f54"},
	{strings.Repeat("\xaa", 131), "This is a test using a larger than block-size key and a larger than block-size data. The key needs to be hashed before being used by the HMAC algorithm.", "9b09ffa71b942fcb27635fbcd5b0e944bfdc63644f0713938a7f51535c3a35e2"},
	{"", "", "b613679a0814d9ec772f95d778c35fc5ff1697c493715653c6c712144292c5ad"},
}

// messageLengths are those at which a block of what is hashed behind the inner block is full, or the padding needs one more, with their neighbours.
var messageLengths = []int{0, 1, 2, 3, 31, 32, 33, 54, 55, 56, 57, 63, 64, 65, 118, 119, 120, 121, 127, 128, 129, 1000}

// mixed are so many bytes of all kinds, the same each time.
func mixed(n int) []byte {
	b := make([]byte, n)
	rand.New(rand.NewSource(int64(n))).Read(b)
	return b
}

func spoil(b []byte) {
	for i := range b {
		b[i] ^= 0xff
	}
}

// want is the tag as the library makes it.
func want(key, message []byte) api.Tag {
	m := stdhmac.New(sha256.New, key)
	m.Write(message)
	return api.Tag(m.Sum(nil))
}

// isRefused: does an error wrap a number, so that both ways of finding it find it, and no other one?
func isRefused(t *testing.T, what string, e error, number api.Errno) {
	t.Helper()
	if e == nil {
		t.Errorf("P3.3: %s: no error, not %d", what, number)
		return
	}
	for n := api.OK; n <= api.ErrLimit; n++ {
		if errors.Is(e, n) != (n == number) {
			t.Errorf("P3.3: %s: errors.Is of %d: %v", what, n, n != number)
		}
	}
	var n api.Errno
	if !errors.As(e, &n) || n != number {
		t.Errorf("P3.3: %s: errors.As finds %d, not %d", what, n, number)
	}
	if _, bare := e.(api.Errno); bare || errors.Unwrap(e) == nil {
		t.Errorf("P3.3: %s: the number is not wrapped", what)
	}
	if !strings.Contains(e.Error(), number.Error()) {
		t.Errorf("P3.3: %s: %q does not tell the number", what, e.Error())
	}
}

func TestTagsThatAreKnown(t *testing.T) {
	for i, c := range known {
		key, message := []byte(c.key), []byte(c.message)
		if got := hmac.Tag(key, message); hex.EncodeToString(got[:]) != c.tag {
			t.Errorf("P3.1: Tag %d: %x, not %s", i, got, c.tag)
		}
		m := hmac.New(key)
		if got := m.Tag(message); hex.EncodeToString(got[:]) != c.tag {
			t.Errorf("P3.3: the mac's Tag %d: %x, not %s", i, got, c.tag)
		}
		if e := m.Right(api.Tag(unhex(t, c.tag)), message); e != nil {
			t.Errorf("P3.3: Right of tag %d: %v", i, e)
		}
	}
}

func unhex(t *testing.T, s string) []byte {
	t.Helper()
	b, e := hex.DecodeString(s)
	if e != nil {
		t.Fatal(e)
	}
	return b
}

func TestTagAtAllEdges(t *testing.T) {
	for keyLength := range 200 {
		key := mixed(keyLength)
		m := hmac.New(key)
		for _, n := range messageLengths {
			message := mixed(n)
			if got := hmac.Tag(key, message); got != want(key, message) {
				t.Fatalf("P3.1: Tag of a key of %d bytes, a message of %d: %x, not %x", keyLength, n, got, want(key, message))
			}
			if got := m.Tag(message); got != want(key, message) {
				t.Fatalf("P3.3: the mac's Tag of a key of %d bytes, a message of %d: %x, not %x", keyLength, n, got, want(key, message))
			}
		}
	}
}

// The tag as P3.1 tells it, word by word, of the same sums.
func TestTagAsItIsTold(t *testing.T) {
	for _, keyLength := range []int{0, 1, 63, 64, 65, 500} {
		key, message := mixed(keyLength), mixed(77)
		block := make([]byte, 64)
		if copy(block, key); keyLength > 64 {
			sum := sha.Sum(key)
			block = append(sum[:], make([]byte, 32)...)
		}
		inner, outer := bytes.Clone(block), bytes.Clone(block)
		for i := range block {
			inner[i] ^= 0x36
			outer[i] ^= 0x5c
		}
		sum := sha.Sum(inner, message)
		if hmac.Tag(key, message) != sha.Sum(outer, sum[:]) {
			t.Errorf("P3.1: Tag of a key of %d bytes", keyLength)
		}
	}
}

func TestNilIsEmpty(t *testing.T) {
	tag := want(nil, nil)
	m := hmac.New(nil)
	for name, got := range map[string]api.Tag{
		"Tag, nil":                  hmac.Tag(nil, nil),
		"Tag, empty":                hmac.Tag([]byte{}, []byte{}),
		"a mac of nil, no list":     m.Tag(),
		"a mac of nil, a nil list":  m.Tag([][]byte(nil)...),
		"a mac of nil, empty lists": m.Tag([][]byte{{}, nil, {}}...),
		"a mac of empty":            hmac.New([]byte{}).Tag(nil),
	} {
		if got != tag {
			t.Errorf("R3: %s: %x, not %x", name, got, tag)
		}
	}
	if e := m.Right(tag); e != nil {
		t.Errorf("P3.3: Right of nothing, by a mac of nil: %v", e)
	}
}

func TestSame(t *testing.T) {
	for _, a := range []api.Tag{{}, want(nil, nil), api.Tag(bytes.Repeat([]byte{0xff}, 32))} {
		other := a
		if !hmac.Same(a, other) {
			t.Errorf("P3.2: %x is not the same as itself", a)
		}
		for bit := range 8 * len(a) {
			b := a
			b[bit/8] ^= 1 << (bit % 8)
			if hmac.Same(a, b) || hmac.Same(b, a) {
				t.Errorf("P3.2: %x is the same with its bit %d turned", a, bit)
			}
		}
	}
}

// What is unlike in two places must not make up for itself, neither by exclusive or nor by a sum.
func TestSameWhereMoreIsUnlike(t *testing.T) {
	a := want([]byte("k"), nil)
	for i := range a {
		for j := range i {
			turned, moved, swapped := a, a, a
			turned[i] ^= 0x80
			turned[j] ^= 0x80
			moved[i]++
			moved[j]--
			swapped[i], swapped[j] = a[j], a[i]
			if hmac.Same(a, turned) || hmac.Same(a, moved) || hmac.Same(a, swapped) != (a[i] == a[j]) {
				t.Errorf("P3.2: unlike at %d and %d", i, j)
			}
		}
	}
	whole := a
	spoil(whole[:])
	if hmac.Same(a, whole) {
		t.Error("P3.2: unlike everywhere")
	}
}

func TestTagOfParts(t *testing.T) {
	key, b := []byte("key"), mixed(150)
	m, tag := hmac.New(key), want(key, b)
	for i := range len(b) + 1 {
		for j := i; j <= len(b); j++ {
			if m.Tag(b[:i], b[i:j], b[j:]) != tag {
				t.Fatalf("P3.3: Tag of parts that end at %d and %d", i, j)
			}
		}
		if e := m.Right(tag, b[:i], nil, b[i:]); e != nil {
			t.Fatalf("P3.3: Right of parts, the first of %d bytes: %v", i, e)
		}
	}
	ab, ba := m.Tag([]byte("a"), []byte("b")), m.Tag([]byte("b"), []byte("a"))
	if ab == ba || ab != want(key, []byte("ab")) {
		t.Error("P3.3: the order of the parts says nothing")
	}
	isRefused(t, "Right of parts in another order", m.Right(ab, []byte("b"), []byte("a")), api.ErrTag)
}

func TestRightRefusesEachTagButOne(t *testing.T) {
	key, message := []byte("key"), []byte("message")
	m := hmac.New(key)
	tag := m.Tag(message)
	if e := m.Right(tag, message); e != nil {
		t.Fatalf("P3.3: Right of its tag: %v", e)
	}
	for bit := range 8 * len(tag) {
		turned := tag
		turned[bit/8] ^= 1 << (bit % 8)
		isRefused(t, "Right of a tag of which a bit is turned", m.Right(turned, message), api.ErrTag)
	}
	isRefused(t, "Right of noughts", m.Right(api.Tag{}, message), api.ErrTag)
	isRefused(t, "Right of nothing's tag", m.Right(m.Tag(), message), api.ErrTag)
	isRefused(t, "Right of another key's tag", m.Right(hmac.Tag([]byte("kez"), message), message), api.ErrTag)
	isRefused(t, "Right of the sum", m.Right(sha.Sum(message), message), api.ErrTag)
	isRefused(t, "Right of no list", m.Right(tag), api.ErrTag)
	isRefused(t, "Right of nil", m.Right(tag, nil), api.ErrTag)
	isRefused(t, "Right of a part", m.Right(tag, message[:6]), api.ErrTag)
	isRefused(t, "Right of more", m.Right(tag, message, []byte{0}), api.ErrTag)
}

func TestOfNoMac(t *testing.T) {
	var none *hmac.Mac
	for _, l := range [][][]byte{nil, {}, {nil}, {[]byte("a"), []byte("b")}, {mixed(1000)}} {
		if got := none.Tag(l...); got != (api.Tag{}) {
			t.Errorf("P3.3: Tag of no mac, %d parts: %x", len(l), got)
		}
		isRefused(t, "Right of no mac", none.Right(want(nil, bytes.Join(l, nil)), l...), api.ErrNil)
		isRefused(t, "Right of no mac, its own tag", none.Right(api.Tag{}, l...), api.ErrNil)
	}
}

// A mac that did not come of New has no key: whatever else it does, it holds nothing right.
func TestOfAMacWithoutKey(t *testing.T) {
	zero := new(hmac.Mac)
	if got := zero.Tag([]byte("a")); got != (api.Tag{}) {
		t.Errorf("R1, R4: Tag of a mac without a key: %x", got)
	}
	for _, tag := range []api.Tag{zero.Tag([]byte("a")), want(nil, []byte("a"))} {
		isRefused(t, "Right of a mac without a key", zero.Right(tag, []byte("a")), api.ErrNil)
	}
}

func TestErrorsTellWhatIsWrong(t *testing.T) {
	var none *hmac.Mac
	wrong, missing := hmac.New(nil).Right(api.Tag{}), none.Right(api.Tag{})
	if wrong == nil || missing == nil {
		t.Fatalf("P3.3: no error: %v, %v", wrong, missing)
	}
	if strings.Contains(wrong.Error(), "no mac") || !strings.Contains(missing.Error(), "no mac") {
		t.Errorf("P3.3: the errors do not tell which is of no mac: %q, %q", wrong.Error(), missing.Error())
	}
	if again := none.Right(api.Tag{}); again == nil || again.Error() != missing.Error() {
		t.Errorf("R5: the same error reads otherwise: %v", again)
	}
}

func TestKeysWithNoughtsBehind(t *testing.T) {
	message := []byte("message")
	for n := range 65 {
		key := mixed(n)
		tag := hmac.Tag(key, message)
		for size := n; size <= 64; size++ {
			longer := append(bytes.Clone(key), make([]byte, size-n)...)
			if hmac.Tag(longer, message) != tag || hmac.New(longer).Tag(message) != tag {
				t.Fatalf("P3.4: a key of %d bytes, with noughts behind up to %d, makes another tag", n, size)
			}
		}
		beyond := append(bytes.Clone(key), make([]byte, 65-n)...)
		if hmac.Tag(beyond, message) == tag {
			t.Fatalf("P3.1: a key of %d bytes, with noughts behind up to 65, makes the same tag", n)
		}
	}
}

func TestKeysThatAreHashed(t *testing.T) {
	message := []byte("message")
	for _, n := range []int{65, 66, 127, 128, 129, 1000} {
		key := mixed(n)
		sum := sha.Sum(key)
		if hmac.Tag(key, message) != hmac.Tag(sum[:], message) {
			t.Errorf("P3.1: a key of %d bytes makes another tag than its sum", n)
		}
	}
	full := mixed(64)
	sum := sha.Sum(full)
	if hmac.Tag(full, message) == hmac.Tag(sum[:], message) {
		t.Error("P3.1: a key of 64 bytes is hashed")
	}
}

func TestAMacIsAskedAgain(t *testing.T) {
	key := mixed(40)
	m := hmac.New(key)
	for range 3 {
		for _, n := range messageLengths {
			message := mixed(n)
			tag := want(key, message)
			if m.Tag(message) != tag || m.Tag(message) != tag {
				t.Fatalf("P3.4: Tag of %d bytes, again", n)
			}
			if e := m.Right(tag, message); e != nil {
				t.Fatalf("P3.4: Right of %d bytes, again: %v", n, e)
			}
			isRefused(t, "P3.4: Right of noughts, in between", m.Right(api.Tag{}, message), api.ErrTag)
		}
	}
}

func TestMacsDoNotHangTogether(t *testing.T) {
	one, two := hmac.New([]byte("one")), hmac.New([]byte("two"))
	again := hmac.New([]byte("one"))
	message := []byte("message")
	for range 2 {
		if one.Tag(message) != want([]byte("one"), message) || two.Tag(message) != want([]byte("two"), message) || again.Tag(message) != one.Tag(message) {
			t.Fatal("P3.3: macs hang together")
		}
		isRefused(t, "Right of the other's tag", two.Right(one.Tag(message), message), api.ErrTag)
	}
}

func TestWhatIsHandedInIsNotChangedAndNotKept(t *testing.T) {
	for _, n := range []int{0, 1, 20, 63, 64, 65, 200} {
		whole, message := mixed(n+100), mixed(n+101) // with room behind the end
		key, before, messageBefore := whole[:n], bytes.Clone(whole), bytes.Clone(message)
		m := hmac.New(key)
		tag := hmac.Tag(key, message[:n])
		again := m.Tag(message[:n/2], message[n/2:n])
		e := m.Right(tag, message[:n])
		if !bytes.Equal(whole, before) || !bytes.Equal(message, messageBefore) {
			t.Fatalf("R3: a key or a message of %d bytes is changed", n)
		}
		if tag != want(before[:n], messageBefore[:n]) || again != tag || e != nil {
			t.Fatalf("P3.3: a key and a message of %d bytes, with room behind: %v", n, e)
		}
		spoil(whole)
		spoil(message)
		if m.Tag(messageBefore[:n]) != tag {
			t.Fatalf("P3.3: New keeps the key of %d bytes that it was handed", n)
		}
	}
}

func TestTheListOfPartsIsNotChanged(t *testing.T) {
	l := [][]byte{[]byte("a"), nil, []byte("bc"), []byte("room")}
	m := hmac.New([]byte("key"))
	if e := m.Right(m.Tag(l[:3]...), l[:3]...); e != nil {
		t.Errorf("P3.3: Right: %v", e)
	}
	if len(l) != 4 || string(l[0]) != "a" || l[1] != nil || string(l[2]) != "bc" || string(l[3]) != "room" {
		t.Errorf("R3: the list that was handed in is changed: %q", l)
	}
}

func FuzzTags(f *testing.F) {
	f.Add([]byte("key"), []byte("message"), 3)
	f.Add(mixed(64), mixed(64), 0)
	f.Add(mixed(65), mixed(120), 55)
	f.Fuzz(func(t *testing.T, key, message []byte, i int) {
		if i < 0 || i > len(message) {
			return
		}
		m, tag := hmac.New(key), want(key, message)
		if hmac.Tag(key, message) != tag {
			t.Errorf("P3.1: Tag of the key %x and the message %x", key, message)
		}
		if e := m.Right(tag, message[:i], message[i:]); e != nil || m.Tag(message[:i], message[i:]) != tag {
			t.Errorf("P3.3: the key %x and the message %x, in parts, the first of %d bytes: %v", key, message, i, e)
		}
		tag[len(key)%len(tag)] ^= 1
		isRefused(t, "Right of a tag of which a bit is turned", m.Right(tag, message), api.ErrTag)
	})
}
