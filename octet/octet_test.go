package octet_test

import (
	"bytes"
	"math"
	"math/bits"
	"strings"
	"testing"

	"bailey/api"
	"bailey/octet"
)

var (
	nine = strings.Repeat("\xff", 9)
	ten  = strings.Repeat("\xff", 10)
)

// edgeNumbers are those at which a number gains a byte or a group of seven bits, with their neighbours.
func edgeNumbers() []uint64 {
	l := []uint64{0, 1, 2, 127, 128, 300, 513, 1<<63 - 1, 1 << 63, 0x0123456789abcdef, math.MaxUint64 - 1, math.MaxUint64}
	for bit := 7; bit < 64; bit++ {
		l = append(l, 1<<bit-1, 1<<bit, 1<<bit+1)
	}
	return l
}

// contexts are bytes that may stand ahead of something or behind it; those with a high bit could be taken for a part of a var.
var contexts = []string{"", "\x00", "x", "\x80", "\xff\xff", "\x01\x80\x00"}

func TestPut(t *testing.T) {
	const n = 0x0102030405060708
	for _, c := range []struct {
		n    uint64
		size int
		want string
	}{
		{513, 2, "\x02\x01"},
		{513, 9, ""},
		{n, 1, "\x08"},
		{n, 2, "\x07\x08"},
		{n, 3, "\x06\x07\x08"},
		{n, 4, "\x05\x06\x07\x08"},
		{n, 5, "\x04\x05\x06\x07\x08"},
		{n, 6, "\x03\x04\x05\x06\x07\x08"},
		{n, 7, "\x02\x03\x04\x05\x06\x07\x08"},
		{n, 8, "\x01\x02\x03\x04\x05\x06\x07\x08"},
		{0, 1, "\x00"},
		{0, 8, "\x00\x00\x00\x00\x00\x00\x00\x00"},
		{255, 1, "\xff"},
		{256, 1, "\x00"},
		{math.MaxUint64, 8, "\xff\xff\xff\xff\xff\xff\xff\xff"},
		{n, 0, ""},
		{n, -1, ""},
		{n, 9, ""},
		{n, 16, ""},
		{n, math.MinInt, ""},
		{n, math.MaxInt, ""},
	} {
		for _, ahead := range contexts {
			if b := octet.Put([]byte(ahead), c.n, c.size); string(b) != ahead+c.want {
				t.Errorf("P1.1: Put(%x, %d, %d): %x, not %x", ahead, c.n, c.size, b, ahead+c.want)
			}
		}
	}
}

func TestTake(t *testing.T) {
	const s = "\x01\x02\x03\x04\x05\x06\x07\x08\x09"
	for _, c := range []struct {
		s        string
		at, size int
		n        uint64
		next     int
		e        api.Errno
	}{
		{s, 0, 1, 0x01, 1, api.OK},
		{s, 0, 2, 0x0102, 2, api.OK},
		{s, 0, 7, 0x01020304050607, 7, api.OK},
		{s, 0, 8, 0x0102030405060708, 8, api.OK},
		{s, 1, 8, 0x0203040506070809, 9, api.OK},
		{s, 8, 1, 0x09, 9, api.OK},
		{"\xff\xff\xff\xff\xff\xff\xff\xff", 0, 8, math.MaxUint64, 8, api.OK},
		{"\x80\x00", 0, 2, 0x8000, 2, api.OK},
		{s, 2, 8, 0, 0, api.ErrBytes},
		{s, 8, 2, 0, 0, api.ErrBytes},
		{s, 9, 1, 0, 0, api.ErrBytes},
		{"", 0, 1, 0, 0, api.ErrBytes},
		{"", 0, 8, 0, 0, api.ErrBytes},
		{s, 10, 1, 0, 0, api.ErrArg},
		{s, -1, 1, 0, 0, api.ErrArg},
		{s, math.MaxInt, 8, 0, 0, api.ErrArg},
		{s, math.MinInt, 8, 0, 0, api.ErrArg},
		{"", 1, 1, 0, 0, api.ErrArg},
		{s, 0, 0, 0, 0, api.ErrArg},
		{s, 0, 9, 0, 0, api.ErrArg},
		{s, 0, -1, 0, 0, api.ErrArg},
		{s, 0, math.MinInt, 0, 0, api.ErrArg},
		{s, 0, math.MaxInt, 0, 0, api.ErrArg},
		{s, 9, 9, 0, 0, api.ErrArg}, // both apply: ErrArg is named first
		{"", 0, 0, 0, 0, api.ErrArg},
	} {
		if n, next, e := octet.Take([]byte(c.s), c.at, c.size); n != c.n || next != c.next || e != c.e {
			t.Errorf("P1.1: Take(%x, %d, %d): %d, %d, %d", c.s, c.at, c.size, n, next, e)
		}
	}
}

func TestPutVar(t *testing.T) {
	for _, c := range []struct {
		n    uint64
		want string
	}{
		{0, "\x00"},
		{1, "\x01"},
		{127, "\x7f"},
		{128, "\x80\x01"},
		{300, "\xac\x02"},
		{1<<14 - 1, "\xff\x7f"},
		{1 << 14, "\x80\x80\x01"},
		{1<<63 - 1, strings.Repeat("\xff", 8) + "\x7f"},
		{1 << 63, strings.Repeat("\x80", 9) + "\x01"},
		{math.MaxUint64, nine + "\x01"},
	} {
		for _, ahead := range contexts {
			if b := octet.PutVar([]byte(ahead), c.n); string(b) != ahead+c.want {
				t.Errorf("P1.2: PutVar(%x, %d): %x, not %x", ahead, c.n, b, ahead+c.want)
			}
		}
	}
}

func TestTakeVar(t *testing.T) {
	for _, c := range []struct {
		s    string
		at   int
		n    uint64
		next int
		e    api.Errno
	}{
		{"\x00", 0, 0, 1, api.OK},
		{"\x7f", 0, 127, 1, api.OK},
		{"\x80\x01", 0, 128, 2, api.OK},
		{"\xac\x02", 0, 300, 2, api.OK},
		{"\xac\x02", 1, 2, 2, api.OK}, // a var may begin at any place
		{"\x80\x80\x01", 0, 1 << 14, 3, api.OK},
		{"\x81\x80\x01", 0, 1<<14 + 1, 3, api.OK},
		{"\x00\x00", 0, 0, 1, api.OK},
		{"\x00\x80", 0, 0, 1, api.OK},
		{strings.Repeat("\xff", 8) + "\x7f", 0, 1<<63 - 1, 9, api.OK},
		{strings.Repeat("\x80", 9) + "\x01", 0, 1 << 63, 10, api.OK},
		{nine + "\x01", 0, math.MaxUint64, 10, api.OK},
		{"x" + nine + "\x01y", 1, math.MaxUint64, 11, api.OK},

		{"", 0, 0, 0, api.ErrBytes}, // nothing stands at the end
		{"\x01", 1, 0, 0, api.ErrBytes},
		{"\x80", 0, 0, 0, api.ErrBytes}, // no last byte
		{nine, 0, 0, 0, api.ErrBytes},
		{"\x80\x00", 0, 0, 0, api.ErrBytes}, // more bytes than there must be
		{"\xff\x00", 0, 0, 0, api.ErrBytes},
		{"\x80\x80\x00", 0, 0, 0, api.ErrBytes},
		{nine + "\x00", 0, 0, 0, api.ErrBytes},
		{nine + "\x81\x00", 0, 0, 0, api.ErrBytes},
		{nine + "\x02", 0, 0, 0, api.ErrBytes}, // more than 64 bits
		{nine + "\x03", 0, 0, 0, api.ErrBytes},
		{nine + "\x7f", 0, 0, 0, api.ErrBytes},
		{strings.Repeat("\x80", 9) + "\x02", 0, 0, 0, api.ErrBytes},
		{nine + "\x80\x01", 0, 0, 0, api.ErrBytes},
		{nine + "\x81\x01", 0, 0, 0, api.ErrBytes},
		{ten + "\x01", 0, 0, 0, api.ErrBytes},
		{ten, 0, 0, 0, api.ErrBytes},
		{strings.Repeat("\x80", 1000) + "\x01", 0, 0, 0, api.ErrBytes},

		{"", 1, 0, 0, api.ErrArg},
		{"", -1, 0, 0, api.ErrArg},
		{"\x01", 2, 0, 0, api.ErrArg},
		{"\x01", -1, 0, 0, api.ErrArg},
		{"\x01", math.MinInt, 0, 0, api.ErrArg},
		{"\x01", math.MaxInt, 0, 0, api.ErrArg},
	} {
		if n, next, e := octet.TakeVar([]byte(c.s), c.at); n != c.n || next != c.next || e != c.e {
			t.Errorf("P1.2: TakeVar(%x, %d): %d, %d, %d", c.s, c.at, n, next, e)
		}
	}
}

func TestPutBytes(t *testing.T) {
	for _, c := range []struct{ s, want string }{
		{"", "\x00"},
		{"ab", "\x02ab"},
		{"\x00", "\x01\x00"},
		{"\x80\x80", "\x02\x80\x80"},
		{strings.Repeat("a", 127), "\x7f" + strings.Repeat("a", 127)},
		{strings.Repeat("a", 128), "\x80\x01" + strings.Repeat("a", 128)},
		{strings.Repeat("a", 300), "\xac\x02" + strings.Repeat("a", 300)},
	} {
		for _, ahead := range contexts {
			if b := octet.PutBytes([]byte(ahead), []byte(c.s)); string(b) != ahead+c.want {
				t.Errorf("P1.3: PutBytes(%x, %x): %x", ahead, c.s, b)
			}
		}
	}
	if b := octet.PutBytes(nil, nil); string(b) != "\x00" {
		t.Errorf("P1.3: PutBytes of nothing: %x", b)
	}
}

func TestTakeBytes(t *testing.T) {
	long := strings.Repeat("a", 300)
	for _, c := range []struct {
		s        string
		at, most int
		want     string
		next     int
		e        api.Errno
	}{
		{"\x02abc", 0, 2, "ab", 3, api.OK},
		{"\x02abc", 0, 3, "ab", 3, api.OK},
		{"\x02ab", 0, math.MaxInt, "ab", 3, api.OK},
		{"x\x02abc", 1, 2, "ab", 4, api.OK},
		{"\x00", 0, 0, "", 1, api.OK},
		{"\x00a", 0, 9, "", 1, api.OK},
		{"\xac\x02" + long, 0, 300, long, 302, api.OK},

		{"\x02abc", 0, 1, "", 0, api.ErrMany},
		{"\xac\x02" + long, 0, 299, "", 0, api.ErrMany},
		{"\x01a", 0, 0, "", 0, api.ErrMany},
		{"\x00", 0, -1, "", 0, api.ErrMany},
		{"\x00", 0, math.MinInt, "", 0, api.ErrMany},
		{"\x02a", 0, 1, "", 0, api.ErrMany}, // ErrBytes applies too: ErrMany is named first
		{nine + "\x01", 0, math.MaxInt, "", 0, api.ErrMany},
		{strings.Repeat("\x80", 9) + "\x01", 0, math.MaxInt, "", 0, api.ErrMany},

		{"\x02a", 0, 2, "", 0, api.ErrBytes},
		{"\x02a", 0, 9, "", 0, api.ErrBytes},
		{"\x01", 0, 9, "", 0, api.ErrBytes},
		{"\xac\x02" + long[1:], 0, 300, "", 0, api.ErrBytes},
		{strings.Repeat("\xff", 8) + "\x7f", 0, math.MaxInt, "", 0, api.ErrBytes},

		{"", 0, 9, "", 0, api.ErrBytes}, // the errors of TakeVar go ahead
		{"\x80\x00", 0, 9, "", 0, api.ErrBytes},
		{"\x82\x00ab", 0, 9, "", 0, api.ErrBytes},
		{nine + "\x02", 0, 9, "", 0, api.ErrBytes},
		{"\x80", 0, -1, "", 0, api.ErrBytes},
		{"", 1, 9, "", 0, api.ErrArg},
		{"\x01a", 3, 9, "", 0, api.ErrArg},
		{"\x01a", -1, -1, "", 0, api.ErrArg},
		{"\x01a", math.MaxInt, 9, "", 0, api.ErrArg},
	} {
		s, next, e := octet.TakeBytes([]byte(c.s), c.at, c.most)
		if string(s) != c.want || next != c.next || e != c.e {
			t.Errorf("P1.3: TakeBytes(%.12x, %d, %d): %x, %d, %d", c.s, c.at, c.most, s, next, e)
		}
	}
}

func TestFixedIsTakenAsPut(t *testing.T) {
	for _, n := range edgeNumbers() {
		for size := 1; size <= 8; size++ {
			for _, ahead := range contexts {
				for _, behind := range contexts {
					b := append(octet.Put([]byte(ahead), n, size), behind...)
					want := n << (64 - 8*size) >> (64 - 8*size)
					if m, next, e := octet.Take(b, len(ahead), size); m != want || next != len(ahead)+size || e != api.OK {
						t.Fatalf("P1.4: Put(%x, %d, %d) with %x behind is taken as %d, %d, %d", ahead, n, size, behind, m, next, e)
					}
				}
			}
		}
	}
}

func TestVarIsTakenAsPut(t *testing.T) {
	for _, n := range edgeNumbers() {
		for _, ahead := range contexts {
			for _, behind := range contexts {
				b := octet.PutVar([]byte(ahead), n)
				end := len(b)
				if m, next, e := octet.TakeVar(append(b, behind...), len(ahead)); m != n || next != end || e != api.OK {
					t.Fatalf("P1.4: PutVar(%x, %d) with %x behind is taken as %d, %d, %d", ahead, n, behind, m, next, e)
				}
			}
		}
	}
}

func TestBytesAreTakenAsPut(t *testing.T) {
	for _, s := range append(contexts, nine, strings.Repeat("z", 127), strings.Repeat("z", 128), strings.Repeat("\x80", 20000)) {
		for _, ahead := range contexts {
			for _, behind := range contexts {
				b := octet.PutBytes([]byte(ahead), []byte(s))
				end := len(b)
				got, next, e := octet.TakeBytes(append(b, behind...), len(ahead), len(s))
				if string(got) != s || next != end || e != api.OK {
					t.Fatalf("P1.4: PutBytes(%x, %.12x) with %x behind is taken as %.12x, %d, %d", ahead, s, behind, got, next, e)
				}
			}
		}
	}
}

// whatIsTaken holds for any bytes: what is taken from them is put as it stood.
func whatIsTaken(t *testing.T, b []byte, at int) {
	t.Helper()
	for size := 1; size <= 8; size++ {
		if n, next, e := octet.Take(b, at, size); e == api.OK && !bytes.Equal(octet.Put(b[:at], n, size), b[:next]) {
			t.Fatalf("P1.4: %x: Take at %d of %d is put otherwise", b, at, size)
		}
	}
	if n, next, e := octet.TakeVar(b, at); e == api.OK && !bytes.Equal(octet.PutVar(b[:at], n), b[:next]) {
		t.Fatalf("P1.4: %x: TakeVar at %d is put otherwise", b, at)
	}
	if s, next, e := octet.TakeBytes(b, at, len(b)); e == api.OK && !bytes.Equal(octet.PutBytes(b[:at], s), b[:next]) {
		t.Fatalf("P1.4: %x: TakeBytes at %d is put otherwise", b, at)
	}
}

func TestWhatIsTakenIsPutAsItStood(t *testing.T) {
	for first := range 256 {
		for second := range 256 {
			for _, behind := range contexts {
				b := append([]byte{byte(first), byte(second)}, behind...)
				for at := range len(b) + 1 {
					whatIsTaken(t, b, at)
				}
			}
		}
	}
	for first := range 256 { // and the last bytes of the longest vars
		for second := range 256 {
			b := append([]byte(nine[1:]), byte(first), byte(second), 1)
			whatIsTaken(t, b, 0)
			whatIsTaken(t, b, 1)
		}
	}
}

func TestPartsOfAVarAreNone(t *testing.T) {
	for _, n := range edgeNumbers() {
		b := octet.PutVar(nil, n)
		for end := range len(b) {
			if m, next, e := octet.TakeVar(b[:end], 0); m != 0 || next != 0 || e != api.ErrBytes {
				t.Errorf("P1.2: TakeVar of %x, a part of %x: %d, %d, %d", b[:end], b, m, next, e)
			}
		}
	}
}

func TestVarIsAsLongAsItsGroups(t *testing.T) {
	for _, n := range edgeNumbers() {
		groups := max(1, (bits.Len64(n)+6)/7)
		if b := octet.PutVar(nil, n); len(b) != groups {
			t.Errorf("P1.4: the var of %d has %d bytes, not %d", n, len(b), groups)
		}
	}
}

// strange are places, sizes and limits that may be, and others that may not.
var strange = []int{math.MinInt, math.MinInt + 1, math.MinInt32, -9, -1, 0, 1, 2, 3, 7, 8, 9, 10, 63, 64, math.MaxInt32, math.MaxInt - 8, math.MaxInt - 1, math.MaxInt}

func TestAnyArgumentsAreAnswered(t *testing.T) {
	texts := []string{"", "\x00", "\x01", "\x02ab", "\x80", "\x80\x00", nine + "\x01", ten + "\x01", strings.Repeat("\x80", 9) + "\x01", "123456789"}
	for _, s := range texts {
		for _, at := range strange {
			for _, k := range strange {
				b := []byte(s)
				if n, next, e := octet.Take(b, at, k); e != api.OK && (n != 0 || next != 0) {
					t.Errorf("R2: Take(%x, %d, %d): %d, %d, %d", s, at, k, n, next, e)
				}
				if got, next, e := octet.TakeBytes(b, at, k); e != api.OK && (len(got) != 0 || next != 0) {
					t.Errorf("R2: TakeBytes(%x, %d, %d): %x, %d, %d", s, at, k, got, next, e)
				}
				octet.Put(b, math.MaxUint64, k)
			}
			if n, next, e := octet.TakeVar([]byte(s), at); e != api.OK && (n != 0 || next != 0) {
				t.Errorf("R2: TakeVar(%x, %d): %d, %d, %d", s, at, n, next, e)
			}
		}
	}
}

func TestNilIsAsEmpty(t *testing.T) {
	for name, put := range puts() {
		if a, b := put(nil), put([]byte{}); !bytes.Equal(a, b) {
			t.Errorf("R3: %s: %x behind nil, %x behind nothing", name, a, b)
		}
	}
	for _, at := range []int{-1, 0, 1} {
		if _, _, e := octet.Take(nil, at, 1); (e == api.ErrBytes) != (at == 0) {
			t.Errorf("R3: Take of nil at %d: %d", at, e)
		}
		if _, _, e := octet.TakeVar(nil, at); (e == api.ErrBytes) != (at == 0) {
			t.Errorf("R3: TakeVar of nil at %d: %d", at, e)
		}
		if _, _, e := octet.TakeBytes(nil, at, 1); (e == api.ErrBytes) != (at == 0) {
			t.Errorf("R3: TakeBytes of nil at %d: %d", at, e)
		}
	}
}

// puts are the calls that put something behind bytes, those too that put nothing there.
func puts() map[string]func(b []byte) []byte {
	return map[string]func(b []byte) []byte{
		"Put":              func(b []byte) []byte { return octet.Put(b, 513, 2) },
		"Put of size 0":    func(b []byte) []byte { return octet.Put(b, 513, 0) },
		"Put of size 9":    func(b []byte) []byte { return octet.Put(b, 513, 9) },
		"PutVar":           func(b []byte) []byte { return octet.PutVar(b, 300) },
		"PutBytes":         func(b []byte) []byte { return octet.PutBytes(b, []byte("ab")) },
		"PutBytes of none": func(b []byte) []byte { return octet.PutBytes(b, nil) },
		"PutBytes of b":    func(b []byte) []byte { return octet.PutBytes(b, b) },
	}
}

func TestWhatIsPutIsNewMemory(t *testing.T) {
	for name, put := range puts() {
		const all = "abcdROOMROOMROOMROOM"
		whole := []byte(all)
		b := whole[:4] // with room behind its end
		one := put(b)
		two := put(b)
		if string(whole) != all {
			t.Errorf("R3: %s changed what it was handed: %q", name, whole)
		}
		if !bytes.Equal(one, two) {
			t.Errorf("R5: %s: %x, then %x", name, one, two)
		}
		keep := string(two)
		spoil(one)
		if string(whole) != all || string(two) != keep {
			t.Errorf("R3: %s answers memory that is another's: %q, %x", name, whole, two)
		}
		spoil(whole)
		if string(two) != keep {
			t.Errorf("R3: %s keeps what it was handed: %x", name, two)
		}
	}
}

func TestPutBytesKeepsNothingOfTheString(t *testing.T) {
	const all = "abcdROOM"
	whole := []byte(all)
	got := octet.PutBytes(nil, whole[:4])
	if string(whole) != all {
		t.Errorf("R3: PutBytes changed what it was handed: %q", whole)
	}
	spoil(whole)
	if string(got) != "\x04abcd" {
		t.Errorf("R3: PutBytes keeps what it was handed: %x", got)
	}
}

func TestWhatIsTakenIsNewMemory(t *testing.T) {
	const all = "\x02abROOM"
	b := []byte(all)
	one, _, _ := octet.TakeBytes(b, 0, 9)
	two, _, _ := octet.TakeBytes(b, 0, 9)
	spoil(one[:cap(one)])
	if string(b) != all || string(two) != "ab" {
		t.Errorf("R3: TakeBytes answers memory that is another's: %q, %q", b, two)
	}
	spoil(b)
	if string(two) != "ab" {
		t.Errorf("R3: TakeBytes keeps what it was handed: %q", two)
	}
}

func spoil(b []byte) {
	for i := range b {
		b[i] ^= 0xff
	}
}

func FuzzTaken(f *testing.F) {
	for _, s := range []string{"", "\x00", "\x02abc", "\xac\x02", nine + "\x01", nine + "\x02", "\x80\x00"} {
		f.Add([]byte(s), 0)
	}
	f.Fuzz(func(t *testing.T, b []byte, at int) {
		if at < 0 || at > len(b) {
			return
		}
		whatIsTaken(t, b, at)
	})
}
