// Package le is layer 1: numbers in bytes, the least byte first. See ../shared/doc/01-le.md.
package le

import "woodcut/api"

// Put answers b with n's bytes from at on.
func Put(b []byte, at, size, n int) ([]byte, api.Errno) {
	if !rightSize(size) || !fits(n, size) {
		return nil, api.ErrArg
	}
	if !inside(b, at, size) {
		return nil, api.ErrRange
	}
	out := make([]byte, len(b))
	copy(out, b)
	for i := range size {
		out[at+i] = byte(n >> (8 * i))
	}
	return out, api.OK
}

// Get answers the number of size bytes from at on.
func Get(b []byte, at, size int) (int, api.Errno) {
	if !rightSize(size) {
		return 0, api.ErrArg
	}
	if !inside(b, at, size) {
		return 0, api.ErrRange
	}
	// Eight bytes may hold more than an int does, so the sum is made without a sign.
	var n uint64
	for i := range size {
		n |= uint64(b[at+i]) << (8 * i)
	}
	if n > api.MaxId {
		return 0, api.ErrArg
	}
	return int(n), api.OK
}

// Zeros tells whether all bytes of b from from on, ahead of to, are 0.
func Zeros(b []byte, from, to int) bool {
	for i := max(from, 0); i < min(to, len(b)); i++ {
		if b[i] != 0 {
			return false
		}
	}
	return true
}

func rightSize(size int) bool {
	return size == 1 || size == 2 || size == 4 || size == 8
}

// fits is asked of a right size alone. 256 to the power of 8 is no int, and MaxId is below it.
func fits(n, size int) bool {
	if n < 0 || n > api.MaxId {
		return false
	}
	return size == 8 || n < 1<<(8*size)
}

// inside is asked of a right size alone. It takes size from the length, since at plus size may be more than an int holds.
func inside(b []byte, at, size int) bool {
	return at >= 0 && at <= len(b)-size
}
