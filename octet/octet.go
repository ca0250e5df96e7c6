// Package octet is layer 1: see shared/doc/01-octet.md. It puts numbers and byte strings into bytes, each in one form alone, and takes them out again.
package octet

import (
	"iter"

	"bailey/api"
)

const (
	longestFixed = 8    // bytes of a fixed number
	longestVar   = 10   // bytes: 64 bits, seven to a byte
	group        = 7    // bits of a number in a byte of its var
	goesOn       = 0x80 // the bit of a var's byte behind which another one stands
)

// Put: bytes with a fixed number behind them. (P1.1)
func Put(b []byte, n uint64, size int) []byte {
	if !isSize(size) {
		return fresh(b, 0)
	}
	out := fresh(b, size)
	for left := size - 1; left >= 0; left-- {
		out = append(out, byte(n>>(8*left)))
	}
	return out
}

// Take: the fixed number at a place. (P1.1)
func Take(b []byte, at, size int) (n uint64, next int, e api.Errno) {
	if !isSize(size) || !isPlace(b, at) {
		return 0, 0, api.ErrArg
	}
	if size > len(b)-at {
		return 0, 0, api.ErrBytes
	}
	for _, c := range b[at : at+size] {
		n = n<<8 | uint64(c)
	}
	return n, at + size, api.OK
}

// PutVar: bytes with a var behind them. (P1.2)
func PutVar(b []byte, n uint64) []byte {
	return appendVar(fresh(b, longestVar), n)
}

// TakeVar: the number whose var is at a place. (P1.2)
func TakeVar(b []byte, at int) (n uint64, next int, e api.Errno) {
	if !isPlace(b, at) {
		return 0, 0, api.ErrArg
	}
read:
	for i, c := range b[at:] {
		switch {
		case i == longestVar-1 && c > 1: // nine groups leave one bit of the 64 for the last byte
			break read
		case i > 0 && c == 0: // the number would stand without this byte too, and it has one form alone
			break read
		}
		n |= uint64(c&^goesOn) << (group * i)
		if c&goesOn == 0 {
			return n, at + i + 1, api.OK
		}
	}
	return 0, 0, api.ErrBytes
}

// PutBytes: bytes with a byte string behind them. (P1.3)
func PutBytes(b, s []byte) []byte {
	return append(appendVar(fresh(b, longestVar+len(s)), uint64(len(s))), s...)
}

// TakeBytes: the byte string at a place. (P1.3)
func TakeBytes(b []byte, at, most int) (s []byte, next int, e api.Errno) {
	n, from, e := TakeVar(b, at)
	if e != api.OK {
		return nil, 0, e
	}
	if most < 0 || n > uint64(most) {
		return nil, 0, api.ErrMany
	}
	size := int(n) // most is an int, and n is no more
	if size > len(b)-from {
		return nil, 0, api.ErrBytes
	}
	next = from + size
	return fresh(b[from:next], 0), next, api.OK
}

func isSize(size int) bool { return size >= 1 && size <= longestFixed }

// isPlace: the end is a place too; there nothing stands.
func isPlace(b []byte, at int) bool { return at >= 0 && at <= len(b) }

// fresh keeps what is handed in apart from what is answered: an append to b itself could write behind its end.
func fresh(b []byte, room int) []byte {
	return append(make([]byte, 0, len(b)+room), b...)
}

func appendVar(b []byte, n uint64) []byte {
	for c := range varBytes(n) {
		b = append(b, c)
	}
	return b
}

// varBytes tells the bytes of n's var. It counts down a number of its own, so that it tells the same each time it is ranged over.
func varBytes(n uint64) iter.Seq[byte] {
	return func(yield func(byte) bool) {
		rest := n
		for rest >= goesOn {
			if !yield(byte(rest) | goesOn) {
				return
			}
			rest >>= group
		}
		yield(byte(rest))
	}
}
