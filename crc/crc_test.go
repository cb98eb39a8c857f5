package crc

import (
	"bytes"
	"encoding/binary"
	"hash/crc32"
	"math"
	"slices"
	"testing"
)

var table = crc32.MakeTable(crc32.Castagnoli)

func oracle(b []byte) int {
	return int(crc32.Checksum(b, table))
}

// someBytes are n bytes of all values, without a short period.
func someBytes(n int) []byte {
	b := make([]byte, n)
	state := uint32(n + 1)
	for i := range b {
		state = state*1664525 + 1013904223
		b[i] = byte(state >> 24)
	}
	return b
}

func withSum(b []byte, sum int) []byte {
	return binary.LittleEndian.AppendUint32(slices.Clone(b), uint32(sum))
}

// P2.1: Sum, sums that are known from elsewhere.
func TestSumOfKnownBytes(t *testing.T) {
	up := make([]byte, 32)
	for i := range up {
		up[i] = byte(i)
	}
	down := slices.Clone(up)
	slices.Reverse(down)
	for _, c := range []struct {
		b    []byte
		want int
	}{
		{[]byte("123456789"), 0xE3069283},
		{nil, 0},
		{[]byte{}, 0},
		{[]byte("a"), 0xC1D04330},
		{make([]byte, 32), 0x8A9136AA},
		{bytes.Repeat([]byte{255}, 32), 0x62A8AB43},
		{up, 0x46DD794E},
		{down, 0x113FDB5C},
	} {
		if n := Sum(c.b); n != c.want {
			t.Errorf("Sum of %v: %x, want %x", c.b, n, c.want)
		}
	}
}

// P2.1: Sum, every single byte, and bytes of many lengths.
func TestSumOfBytesOfEachLength(t *testing.T) {
	for c := range 256 {
		if n := Sum([]byte{byte(c)}); n != oracle([]byte{byte(c)}) {
			t.Errorf("Sum of %d: %x", c, n)
		}
	}
	for _, length := range []int{2, 3, 4, 5, 7, 8, 9, 15, 16, 17, 60, 63, 64, 65, 255, 256, 257, 4096, 1 << 20} {
		b := someBytes(length)
		n := Sum(b)
		if n != oracle(b) || n < 0 || n > math.MaxUint32 {
			t.Errorf("Sum of %d bytes: %x", length, n)
		}
	}
}

// P2.1: More looks at the lowest 32 bits of a sum, whichever sum that is.
func TestMoreLooksAtTheLowest32Bits(t *testing.T) {
	b := someBytes(64)
	for _, low := range []uint32{0, 1, 5, 0x7fffffff, 0x80000000, 0xE3069283, math.MaxUint32 - 1, math.MaxUint32} {
		for _, high := range []int{0, 1, 7, 1<<30 - 1, math.MaxInt32, -1, -2, math.MinInt32} {
			sum := high<<32 | int(low)
			for _, length := range []int{0, 1, 2, 64} {
				want := int(crc32.Update(low, table, b[:length]))
				if n := More(sum, b[:length]); n != want {
					t.Errorf("More of %d and %d bytes: %x, want %x", sum, length, n, want)
				}
			}
		}
	}
}

// P2.1: More of no bytes is the sum itself, from 0 to 2^32 - 1.
func TestMoreOfNoBytes(t *testing.T) {
	for _, c := range [][2]int{
		{0, 0},
		{5, 5},
		{-1, 4294967295},
		{-2, 4294967294},
		{4294967295, 4294967295},
		{4294967296, 0},
		{4294967297, 1},
		{-4294967296, 0},
		{-4294967295, 1},
		{math.MaxInt, 4294967295},
		{math.MinInt, 0},
	} {
		if n := More(c[0], nil); n != c[1] {
			t.Errorf("More of %d and nothing: %d, want %d", c[0], n, c[1])
		}
		if n := More(c[0], []byte{}); n != c[1] {
			t.Errorf("More of %d and an empty list: %d, want %d", c[0], n, c[1])
		}
	}
}

// P2.2: cut at any place, the sum of all is More of the first piece's and the second.
func TestMoreGoesOnWhereSumEnded(t *testing.T) {
	for _, length := range []int{0, 1, 2, 9, 64, 130} {
		b := someBytes(length)
		whole := Sum(b)
		for cut := range length + 1 {
			if n := More(Sum(b[:cut]), b[cut:]); n != whole {
				t.Errorf("%d bytes cut at %d: %x, want %x", length, cut, n, whole)
			}
		}
		byOne := Sum(nil)
		for i := range b {
			byOne = More(byOne, b[i:i+1])
		}
		if byOne != whole {
			t.Errorf("%d bytes one by one: %x, want %x", length, byOne, whole)
		}
	}
}

// P2.1: Good, too few bytes and just four.
func TestGoodOfFewBytes(t *testing.T) {
	for length := range 4 {
		for _, fill := range []byte{0, 1, 255} {
			if Good(bytes.Repeat([]byte{fill}, length)) {
				t.Errorf("%d bytes of %d are good", length, fill)
			}
		}
	}
	if Good(nil) {
		t.Error("nothing is good")
	}
	if !Good(make([]byte, 4)) {
		t.Error("the sum of nothing is not good")
	}
	for i := range 4 {
		for c := 1; c < 256; c++ {
			b := make([]byte, 4)
			b[i] = byte(c)
			if Good(b) {
				t.Errorf("%v is good", b)
			}
		}
	}
}

// P2.1: Good, bytes with their sum behind: as they are, with a bit changed anywhere, with a byte less or more.
func TestGoodOfBytesWithTheirSum(t *testing.T) {
	for _, length := range []int{0, 1, 2, 3, 4, 5, 9, 60, 64, 130} {
		b := withSum(someBytes(length), oracle(someBytes(length)))
		if !Good(b) {
			t.Errorf("%d bytes and their sum are not good", length)
		}
		for i := range b {
			for bit := range 8 {
				changed := slices.Clone(b)
				changed[i] ^= 1 << bit
				if Good(changed) {
					t.Errorf("%d bytes and their sum, byte %d changed, are good", length, i)
				}
			}
		}
		if Good(b[:len(b)-1]) || Good(b[1:]) || Good(append(slices.Clone(b), 1)) {
			t.Errorf("%d bytes and their sum, a byte less or more, are good", length)
		}
	}
}

// P2.1: Good reads the sum with its least byte first, of all other bytes.
func TestGoodReadsTheLeastByteFirst(t *testing.T) {
	b := []byte("123456789")
	if !Good(append(slices.Clone(b), 0x83, 0x92, 0x06, 0xE3)) {
		t.Error("the least byte first is not good")
	}
	if Good(append(slices.Clone(b), 0xE3, 0x06, 0x92, 0x83)) {
		t.Error("the greatest byte first is good")
	}
	if Good(withSum(b, oracle(b[1:]))) || Good(withSum(b, oracle(b[:8]))) || Good(withSum(b, oracle(withSum(b, 0)))) {
		t.Error("the sum of other bytes is good")
	}
}

// R2, R6: what is handed in stays, and nothing behind its length is looked at.
func TestSpareRoomIsLeftAlone(t *testing.T) {
	room := withSum([]byte("123456789"), 0xE3069283)
	b := slices.Clone(room)
	if Good(b[:9]) || Good(b[:12]) || Sum(b[:9]) != 0xE3069283 || More(0, b[:9]) != 0xE3069283 {
		t.Error("bytes behind the length were read")
	}
	if !bytes.Equal(b, room) {
		t.Error("changed", b)
	}
}
