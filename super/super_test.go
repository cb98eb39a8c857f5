package super

import (
	"bytes"
	"encoding/binary"
	"hash/crc32"
	"math"
	"slices"
	"testing"

	"woodcut/api"
)

var table = crc32.MakeTable(crc32.Castagnoli)

// sealed answers b's first 60 bytes with their sum behind, worked out by other means than the program's.
func sealed(b []byte) []byte {
	ahead := slices.Clone(b[:60])
	return binary.LittleEndian.AppendUint32(ahead, crc32.Checksum(ahead, table))
}

// laid answers the block of these numbers, right ones or not.
func laid(gen uint64, blocks, root, size, first uint32) []byte {
	b := []byte{'W', 'C', 'U', 'T'}
	b = binary.LittleEndian.AppendUint64(b, gen)
	for _, n := range []uint32{blocks, root, size, first} {
		b = binary.LittleEndian.AppendUint32(b, n)
	}
	return sealed(append(b, make([]byte, 32)...))
}

func laidOf(s api.Super) []byte {
	return laid(uint64(s.Gen), uint32(s.Blocks), uint32(s.Root), uint32(s.Size), uint32(s.First))
}

// changed answers b with the byte at at put to c.
func changed(b []byte, at int, c byte) []byte {
	out := slices.Clone(b)
	out[at] = c
	return out
}

// sample has no byte of a number twice.
func sample() api.Super {
	return api.Super{Gen: 0x0807060504, Blocks: 0x0C0B, Root: 0x0A09, Size: 0x01EF, First: 0x0302}
}

// around answers the least and the greatest, what lies beside them, and the ends of int.
func around(least, most int) []int {
	return []int{math.MinInt, -most, -1, least - 1, least, least + 1, most - 1, most, most + 1, 1 << 32, 1<<32 + least, 1 << 62, math.MaxInt}
}

// holdCheck holds Check, Bytes and, of what Bytes writes, Parse against what is to be told of s.
func holdCheck(t *testing.T, s api.Super, right bool) {
	t.Helper()
	want := api.ErrArg
	if right {
		want = api.OK
	}
	if e := Check(s); e != want {
		t.Errorf("Check of %v: %d, want %d", s, e, want)
	}
	b, e := Bytes(s)
	if e != want {
		t.Errorf("Bytes of %v: %d, want %d", s, e, want)
	}
	if !right {
		if len(b) != 0 {
			t.Errorf("Bytes of %v: %v beside an error", s, b)
		}
		return
	}
	if !bytes.Equal(b, laidOf(s)) {
		t.Errorf("Bytes of %v: %v", s, b)
	}
	if got, e := Parse(b); got != s || e != api.OK {
		t.Errorf("Parse of %v: %v, %d", s, got, e)
	}
}

// P6.1: Check, each number at its edges, all others right.
func TestCheckOfEachNumber(t *testing.T) {
	for _, n := range around(1, 1<<40) {
		s := sample()
		s.Gen = n
		holdCheck(t, s, n >= 1 && n <= 1<<40)
	}
	for _, n := range around(4, 4096) {
		holdCheck(t, api.Super{Gen: 1, Blocks: n}, n >= 4 && n <= 4096)
	}
	for _, n := range around(0, 512) {
		s := sample()
		s.Size = n
		holdCheck(t, s, n >= 0 && n <= 512)
	}
}

// P6.1: Check, Root and First at their edges, of devices of several sizes.
func TestCheckOfWhatLeads(t *testing.T) {
	for _, blocks := range []int{4, 5, 100, 4095, 4096} {
		for _, n := range append(around(2, blocks-1), 0, 1, 2, 3, blocks-1, blocks, 4095, 4096) {
			right := n == 0 || n >= 2 && n < blocks
			holdCheck(t, api.Super{Gen: 7, Blocks: blocks, Root: n}, right)
			holdCheck(t, api.Super{Gen: 7, Blocks: blocks, First: n}, right)
			holdCheck(t, api.Super{Gen: 7, Blocks: blocks, Root: n, First: n}, right)
			holdCheck(t, api.Super{Gen: 7, Blocks: blocks, Root: n, First: 2}, right)
			holdCheck(t, api.Super{Gen: 7, Blocks: blocks, Root: 2, First: n}, right)
		}
	}
}

// P6.1: Check, at numbers that may not be where another one hangs on them.
func TestCheckOfSeveralFaults(t *testing.T) {
	for _, s := range []api.Super{
		{},
		{Gen: 1},
		{Blocks: 4},
		{Gen: -1, Blocks: -1, Root: -1, Size: -1, First: -1},
		{Gen: 1, Blocks: math.MinInt, Root: 2, First: 2},
		{Gen: 1, Blocks: math.MinInt, Root: math.MinInt, First: math.MinInt},
		{Gen: 1, Blocks: math.MaxInt, Root: 4097, First: math.MaxInt - 1},
		{Gen: 1, Blocks: 3, Root: 2, First: 2},
		{Gen: 1, Blocks: 4097, Root: 4096, First: 4096},
		{Gen: math.MaxInt, Blocks: math.MaxInt, Root: math.MaxInt, Size: math.MaxInt, First: math.MaxInt},
	} {
		holdCheck(t, s, false)
	}
}

// P6.1: Bytes, where each number lies, the zeros, the sum.
func TestBytesLaysEachNumber(t *testing.T) {
	b, e := Bytes(sample())
	want := []byte{
		'W', 'C', 'U', 'T',
		4, 5, 6, 7, 8, 0, 0, 0,
		0x0B, 0x0C, 0, 0,
		9, 0x0A, 0, 0,
		0xEF, 1, 0, 0,
		2, 3, 0, 0,
		0, 0, 0, 0, 0, 0, 0, 0, 0, 0, 0, 0, 0, 0, 0, 0,
		0, 0, 0, 0, 0, 0, 0, 0, 0, 0, 0, 0, 0, 0, 0, 0,
	}
	sum := crc32.Checksum(want, table)
	want = append(want, byte(sum), byte(sum>>8), byte(sum>>16), byte(sum>>24))
	if e != api.OK || len(b) != 64 || !bytes.Equal(b, want) {
		t.Errorf("%v, %d, want %v", b, e, want)
	}
}

// P6.1: Bytes, each number alone, at its least and its greatest.
func TestBytesOfOneNumber(t *testing.T) {
	for _, c := range []struct {
		s    api.Super
		at   int
		want []byte
	}{
		{api.Super{Gen: 1, Blocks: 4}, 4, []byte{1, 0, 0, 0, 0, 0, 0, 0}},
		{api.Super{Gen: 1 << 40, Blocks: 4}, 4, []byte{0, 0, 0, 0, 0, 1, 0, 0}},
		{api.Super{Gen: 1, Blocks: 4}, 12, []byte{4, 0, 0, 0}},
		{api.Super{Gen: 1, Blocks: 4096}, 12, []byte{0, 16, 0, 0}},
		{api.Super{Gen: 1, Blocks: 4}, 16, make([]byte, 44)},
		{api.Super{Gen: 1, Blocks: 4, Root: 2}, 16, []byte{2, 0, 0, 0}},
		{api.Super{Gen: 1, Blocks: 4096, Root: 4095}, 16, []byte{255, 15, 0, 0}},
		{api.Super{Gen: 1, Blocks: 4, Size: 1}, 20, []byte{1, 0, 0, 0}},
		{api.Super{Gen: 1, Blocks: 4, Size: 512}, 20, []byte{0, 2, 0, 0}},
		{api.Super{Gen: 1, Blocks: 4, First: 3}, 24, []byte{3, 0, 0, 0}},
		{api.Super{Gen: 1, Blocks: 4096, First: 4095}, 24, []byte{255, 15, 0, 0}},
	} {
		b, e := Bytes(c.s)
		if e != api.OK || len(b) != 64 || !bytes.Equal(b[c.at:c.at+len(c.want)], c.want) || !bytes.Equal(b, sealed(b)) {
			t.Errorf("Bytes of %v: %v, %d", c.s, b, e)
		}
	}
}

// holdRefused holds Parse against an error, and nothing beside it.
func holdRefused(t *testing.T, name string, b []byte, want api.Errno) {
	t.Helper()
	if s, e := Parse(b); s != (api.Super{}) || e != want {
		t.Errorf("%s: %v, %d, want %d alone", name, s, e, want)
	}
}

// P6.1: Parse, blocks of other lengths, whatever else they are.
func TestParseOfOtherLengths(t *testing.T) {
	b := laidOf(sample())
	holdRefused(t, "nil", nil, api.ErrLen)
	holdRefused(t, "no bytes", []byte{}, api.ErrLen)
	for length := range 64 {
		holdRefused(t, "first bytes", b[:length], api.ErrLen)
		holdRefused(t, "last bytes", b[64-length:], api.ErrLen)
		holdRefused(t, "zeros", make([]byte, length), api.ErrLen)
	}
	for _, more := range []int{1, 2, 4, 64, 192} {
		holdRefused(t, "bytes behind", append(slices.Clone(b), make([]byte, more)...), api.ErrLen)
		holdRefused(t, "bytes ahead", append(make([]byte, more), b...), api.ErrLen)
	}
	// Of its own sum, but too short or too long.
	for _, length := range []int{59, 61} {
		other := append(slices.Clone(b[:28]), make([]byte, length-28)...)
		other = binary.LittleEndian.AppendUint32(other, crc32.Checksum(other, table))
		holdRefused(t, "another length with its sum", other, api.ErrLen)
	}
}

// P6.1: Parse, each byte of the name changed to each other one: told ahead of the sum and of all else.
func TestParseOfOtherNames(t *testing.T) {
	b := laidOf(sample())
	wrong := laid(0, 3, 1, 513, 1)
	for at := range 4 {
		for c := range 256 {
			if byte(c) == b[at] {
				continue
			}
			other := changed(b, at, byte(c))
			holdRefused(t, "a name without its sum", other, api.ErrMagic)
			holdRefused(t, "a name with its sum", sealed(other), api.ErrMagic)
			holdRefused(t, "a name and numbers", sealed(changed(wrong, at, byte(c))), api.ErrMagic)
			holdRefused(t, "a name and a zero", sealed(changed(other, 28, 1)), api.ErrMagic)
			holdRefused(t, "a name and the sum", changed(sealed(other), 63, ^other[63]), api.ErrMagic)
		}
	}
	for _, name := range []string{"wcut", "TUCW", "NODE", "\x00\x00\x00\x00", "CUTW"} {
		holdRefused(t, name, sealed(append([]byte(name), b[4:]...)), api.ErrMagic)
	}
}

// P6.1: Parse, any bit changed behind the name: the sum does not fit, and that is told ahead of what the bit means.
func TestParseOfOtherSums(t *testing.T) {
	for _, s := range []api.Super{sample(), {Gen: 1, Blocks: 4}} {
		b := laidOf(s)
		for at := 4; at < 64; at++ {
			for bit := range 8 {
				holdRefused(t, "a bit", changed(b, at, b[at]^1<<bit), api.ErrSum)
			}
		}
		holdRefused(t, "sum 0", append(slices.Clone(b[:60]), 0, 0, 0, 0), api.ErrSum)
		turned := slices.Clone(b)
		slices.Reverse(turned[60:])
		holdRefused(t, "the greatest byte first", turned, api.ErrSum)
		part := binary.LittleEndian.AppendUint32(slices.Clone(b[:60]), crc32.Checksum(b[:28], table))
		holdRefused(t, "the sum of the numbers alone", part, api.ErrSum)
	}
	wrong := laid(0, 3, 1, 513, 1)
	holdRefused(t, "the sum and numbers", changed(wrong, 60, ^wrong[60]), api.ErrSum)
	filled := sealed(changed(laidOf(sample()), 40, 1))
	holdRefused(t, "the sum and a zero", changed(filled, 60, ^filled[60]), api.ErrSum)
}

// P6.1: Parse, numbers that may not be, with a sum that fits.
func TestParseOfOtherNumbers(t *testing.T) {
	for _, c := range []struct {
		gen                       uint64
		blocks, root, size, first uint32
		right                     bool
	}{
		{1, 4, 0, 0, 0, true},
		{1 << 40, 4096, 4095, 512, 4095, true},
		{0, 4, 0, 0, 0, false},
		{1<<40 + 1, 4, 0, 0, 0, false},
		{1 << 56, 4, 0, 0, 0, false},
		{1<<62 - 1, 4, 0, 0, 0, false},
		{1 << 62, 4, 0, 0, 0, false},
		{1<<62 + 1, 4, 0, 0, 0, false},
		{1 << 63, 4, 0, 0, 0, false},
		{1<<63 + 1, 4, 0, 0, 0, false},
		{math.MaxUint64, 4, 0, 0, 0, false},
		{1, 0, 0, 0, 0, false},
		{1, 3, 0, 0, 0, false},
		{1, 4097, 0, 0, 0, false},
		{1, 65536 + 4, 0, 0, 0, false},
		{1, 1<<31 + 4, 0, 0, 0, false},
		{1, math.MaxUint32, 0, 0, 0, false},
		{1, 4, 1, 0, 0, false},
		{1, 4, 2, 0, 0, true},
		{1, 4, 3, 0, 0, true},
		{1, 4, 4, 0, 0, false},
		{1, 4, 65536 + 2, 0, 0, false},
		{1, 4096, 4096, 0, 0, false},
		{1, 4, math.MaxUint32, 0, 0, false},
		{1, 4, 0, 513, 0, false},
		{1, 4, 0, 65536, 0, false},
		{1, 4, 0, math.MaxUint32, 0, false},
		{1, 4, 0, 0, 1, false},
		{1, 4, 0, 0, 2, true},
		{1, 4, 0, 0, 3, true},
		{1, 4, 0, 0, 4, false},
		{1, 4, 0, 0, 65536 + 2, false},
		{1, 4096, 0, 0, 4096, false},
		{1, 4, 0, 0, math.MaxUint32, false},
	} {
		b := laid(c.gen, c.blocks, c.root, c.size, c.first)
		if !c.right {
			holdRefused(t, "a number", b, api.ErrArg)
			continue
		}
		want := api.Super{Gen: int(c.gen), Blocks: int(c.blocks), Root: int(c.root), Size: int(c.size), First: int(c.first)}
		if s, e := Parse(b); s != want || e != api.OK {
			t.Errorf("Parse of %v: %v, %d, want %v", b, s, e, want)
		}
	}
}

// P6.1: Parse, each byte that must be zero put to each other one, with a sum that fits.
func TestParseOfOtherZeros(t *testing.T) {
	b := laidOf(sample())
	for at := 28; at < 60; at++ {
		for c := 1; c < 256; c++ {
			holdRefused(t, "a zero", sealed(changed(b, at, byte(c))), api.ErrArg)
		}
	}
	holdRefused(t, "a zero and numbers", sealed(changed(laid(0, 3, 1, 513, 1), 59, 1)), api.ErrArg)
}

// P6.1, P6.2: a block parses just if it is the one that Bytes writes of what Parse answers.
func TestParseTakesWhatBytesWritesAlone(t *testing.T) {
	base := laidOf(sample())
	for at := 4; at < 60; at++ {
		for c := range 256 {
			b := sealed(changed(base, at, byte(c)))
			s, e := Parse(b)
			if e != api.OK {
				continue
			}
			if out, e := Bytes(s); e != api.OK || !bytes.Equal(out, b) {
				t.Errorf("byte %d as %d: parses as %v, which is written as %v, %d", at, c, s, out, e)
			}
		}
	}
}

// P6.2: what is written is read, for all edges of all numbers together.
func TestWhatIsWrittenIsRead(t *testing.T) {
	count := 0
	for _, gen := range []int{1, 2, 255, 256, 1<<32 - 1, 1 << 32, 1<<40 - 1, 1 << 40} {
		for _, blocks := range []int{4, 5, 255, 256, 4095, 4096} {
			for _, size := range []int{0, 1, 255, 256, 511, 512} {
				for _, root := range []int{0, 2, blocks / 2, blocks - 1} {
					for _, first := range []int{0, 2, blocks / 2, blocks - 1} {
						holdCheck(t, api.Super{Gen: gen, Blocks: blocks, Root: root, Size: size, First: first}, true)
						count++
					}
				}
			}
		}
	}
	if count != 8*6*6*4*4 {
		t.Error("other than all", count)
	}
}

// device answers so many blocks, the first of them as given, all others zeros.
func device(blocks int, first ...[]byte) []byte {
	img := make([]byte, blocks*api.Block)
	copy(img, slices.Concat(first...))
	return img
}

// holdPick holds Pick of img against a superblock and its slot.
func holdPick(t *testing.T, name string, img []byte, want api.Super, slot int) {
	t.Helper()
	if s, at, e := Pick(img); s != want || at != slot || e != api.OK {
		t.Errorf("%s: %v in %d, %d, want %v in %d", name, s, at, e, want, slot)
	}
}

// holdNoPick holds Pick of img against an error, and nothing beside it.
func holdNoPick(t *testing.T, name string, img []byte, want api.Errno) {
	t.Helper()
	if s, at, e := Pick(img); s != (api.Super{}) || at != 0 || e != want {
		t.Errorf("%s: %v in %d, %d, want %d alone", name, s, at, e, want)
	}
}

// P6.1: Pick, devices that are none, whatever stands in their slots.
func TestPickOfNoDevice(t *testing.T) {
	b := laid(1, 4, 0, 0, 0)
	two := slices.Concat(b, b)
	holdNoPick(t, "nil", nil, api.ErrLen)
	holdNoPick(t, "no bytes", []byte{}, api.ErrLen)
	holdNoPick(t, "one block", b, api.ErrLen)
	holdNoPick(t, "two blocks", two, api.ErrLen)
	holdNoPick(t, "three blocks", append(slices.Clone(two), b...), api.ErrLen)
	three := laid(1, 3, 0, 0, 0)
	holdNoPick(t, "three blocks of three", slices.Concat(three, three, b), api.ErrLen)
	for _, length := range []int{255, 257, 319, 4096*64 - 1, 4096*64 + 1, 4097 * 64} {
		img := make([]byte, length)
		copy(img, two)
		holdNoPick(t, "another length", img, api.ErrLen)
	}
	many := laid(1, 4097, 0, 0, 0)
	holdNoPick(t, "a block too many", device(4097, many, many), api.ErrLen)
}

// badSlots answers blocks that are no superblock of a device of 4 blocks, though of a great Gen where they have one.
func badSlots() map[string][]byte {
	good := laid(1<<40, 4, 2, 512, 3)
	return map[string][]byte{
		"zeros":                    make([]byte, 64),
		"ones":                     bytes.Repeat([]byte{255}, 64),
		"another name":             sealed(changed(good, 0, 'w')),
		"another name and no sum":  changed(good, 3, 0),
		"another sum":              changed(good, 63, ^good[63]),
		"another Gen under a sum":  changed(good, 8, good[8]+1),
		"a byte that must be zero": sealed(changed(good, 30, 1)),
		"Gen 0":                    laid(0, 4, 0, 0, 0),
		"Gen too great":            laid(1<<40+1, 4, 0, 0, 0),
		"Gen above MaxId":          laid(math.MaxUint64, 4, 0, 0, 0),
		"a Root outside":           laid(9, 4, 4, 0, 0),
		"a First outside":          laid(9, 4, 0, 0, 4),
		"a Size too great":         laid(9, 4, 0, 513, 0),
		"Blocks one more":          laid(1<<40, 5, 0, 0, 0),
		"Blocks the most":          laid(1<<40, 4096, 0, 0, 0),
		"Blocks one less":          laid(1<<40, 3, 0, 0, 0),
	}
}

// P6.1: Pick, no slot, and one slot alone beside whatever is none.
func TestPickOfOneSlot(t *testing.T) {
	holdNoPick(t, "a device of zeros", device(4), api.ErrImage)
	holdNoPick(t, "the greatest device of zeros", device(4096), api.ErrImage)
	s := api.Super{Gen: 1, Blocks: 4, Root: 3, Size: 7, First: 2}
	for name, bad := range badSlots() {
		holdPick(t, name+" in slot 1", device(4, laidOf(s), bad), s, 0)
		holdPick(t, name+" in slot 0", device(4, bad, laidOf(s)), s, 1)
		for other, worse := range badSlots() {
			holdNoPick(t, name+" and "+other, device(4, bad, worse), api.ErrImage)
		}
	}
}

// P6.1: Pick, a superblock that stands in no slot is none.
func TestPickLooksAtTheSlotsAlone(t *testing.T) {
	zeros, b := make([]byte, 64), laid(9, 5, 0, 0, 0)
	holdNoPick(t, "behind the slots", device(5, zeros, zeros, b, b, b), api.ErrImage)
	holdNoPick(t, "between the slots", device(5, zeros[:32], b), api.ErrImage)
	s := api.Super{Gen: 3, Blocks: 5}
	holdPick(t, "a greater one behind the slots", device(5, laidOf(s), zeros, b, b, b), s, 0)
	holdPick(t, "greater ones behind slot 1", device(5, zeros, laidOf(s), b, b, b), s, 1)
}

// P6.1: Pick, both slots, each of many Gens in either.
func TestPickOfBothSlots(t *testing.T) {
	gens := []int{1, 2, 3, 255, 256, 257, 1<<32 - 1, 1 << 32, 1<<40 - 1, 1 << 40}
	for _, blocks := range []int{4, 5, 4096} {
		for _, gen0 := range gens {
			for _, gen1 := range gens {
				zero := api.Super{Gen: gen0, Blocks: blocks, Root: 2, Size: 5}
				one := api.Super{Gen: gen1, Blocks: blocks, Size: 512, First: 3}
				want, slot := zero, 0
				if gen1 > gen0 {
					want, slot = one, 1
				}
				holdPick(t, "both", device(blocks, laidOf(zero), laidOf(one)), want, slot)
			}
		}
	}
}

// P6.1: Pick, a slot whose Blocks are not the device's is none, whatever its Gen.
func TestPickOfOtherBlocks(t *testing.T) {
	for _, blocks := range []int{4, 5, 100, 4095, 4096} {
		s := api.Super{Gen: 2, Blocks: blocks, First: 3}
		for _, other := range []int{4, 5, 99, 101, 4095, 4096} {
			if other == blocks {
				continue
			}
			for _, gen := range []uint64{1, 2, 3} {
				b := laid(gen, uint32(other), 0, 0, 0)
				holdPick(t, "others in slot 1", device(blocks, laidOf(s), b), s, 0)
				holdPick(t, "others in slot 0", device(blocks, b, laidOf(s)), s, 1)
				holdNoPick(t, "others in both", device(blocks, b, b), api.ErrImage)
			}
		}
	}
}

// P6.1, P6.2: what Bytes writes to a slot is picked.
func TestWhatIsWrittenIsPicked(t *testing.T) {
	s := sample()
	b, _ := Bytes(s)
	holdPick(t, "slot 0", device(s.Blocks, b), s, 0)
	holdPick(t, "slot 1", device(s.Blocks, make([]byte, 64), b), s, 1)
}

// R2, R6: what is handed in stays, its spare room too, and nothing behind its length is looked at.
func TestNothingHandedInIsChanged(t *testing.T) {
	one, two := laid(1, 4, 2, 9, 3), laid(2, 4, 3, 1, 2)
	room := slices.Concat(one, two, bytes.Repeat([]byte{7}, 128), one)
	kept := slices.Clone(room)
	holdPick(t, "a device with spare room", room[:256], api.Super{Gen: 2, Blocks: 4, Root: 3, Size: 1, First: 2}, 1)
	holdNoPick(t, "a device that ends ahead", room[:192], api.ErrLen)
	if s, e := Parse(room[:64]); s != (api.Super{Gen: 1, Blocks: 4, Root: 2, Size: 9, First: 3}) || e != api.OK {
		t.Error("a block with spare room:", s, e)
	}
	holdRefused(t, "a block that ends ahead", room[:63], api.ErrLen)
	holdRefused(t, "a block of another name", room[128:192], api.ErrMagic)
	if !bytes.Equal(room, kept) {
		t.Error("what was handed in is changed")
	}
}

// R2, R3: each answer is new memory, spare room too, and the next one is the same.
func TestBytesAnswersNewMemory(t *testing.T) {
	first, _ := Bytes(sample())
	full := first[:cap(first)]
	for i := range full {
		full[i] = 99
	}
	second, e := Bytes(sample())
	if e != api.OK || !bytes.Equal(second, laidOf(sample())) {
		t.Error("a later answer is another", second, e)
	}
	full = second[:cap(second)]
	for i := range full {
		full[i] = 98
	}
	if !bytes.Equal(first, bytes.Repeat([]byte{99}, 64)) {
		t.Error("two answers share memory")
	}
}
