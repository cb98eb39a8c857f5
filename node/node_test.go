package node

import (
	"bytes"
	"encoding/binary"
	"hash/crc32"
	"math"
	"slices"
	"testing"

	"woodcut/api"
)

var table = crc32.MakeTable(crc32.Castagnoli)

// sealed answers b's first 60 bytes with their sum behind, worked out by other means than the program's.
func sealed(b []byte) []byte {
	ahead := slices.Clone(b[:60])
	return binary.LittleEndian.AppendUint32(ahead, crc32.Checksum(ahead, table))
}

// laid answers the block of these numbers, right ones or not.
func laid(level uint32, ptr [8]uint32) []byte {
	b := []byte{'N', 'O', 'D', 'E'}
	b = binary.LittleEndian.AppendUint32(b, level)
	for _, n := range ptr {
		b = binary.LittleEndian.AppendUint32(b, n)
	}
	return sealed(append(b, make([]byte, 20)...))
}

func laidOf(n api.Node) []byte {
	var ptr [8]uint32
	for i, at := range n.Ptr {
		ptr[i] = uint32(at)
	}
	return laid(uint32(n.Level), ptr)
}

// changed answers b with the byte at at put to c.
func changed(b []byte, at int, c byte) []byte {
	out := slices.Clone(b)
	out[at] = c
	return out
}

// sample has no byte of a number twice.
func sample() api.Node {
	return api.Node{Level: 1, Ptr: [8]int{0x0302, 0x0504, 0x0706, 0x0908, 0x0B0A, 0x0D0C, 0x0F0E, 0x10}}
}

// alone answers a node whose one pointer that is not 0 stands at place i.
func alone(level, i, at int) api.Node {
	n := api.Node{Level: level}
	n.Ptr[i] = at
	return n
}

// with answers n with its pointer at place i put to at.
func with(n api.Node, i, at int) api.Node {
	n.Ptr[i] = at
	return n
}

// edges are numbers at which a pointer begins or ends to be right, and far ones, some of which would be right if they wrapped.
func edges() []int {
	return []int{
		math.MinInt, math.MinInt + 2, -1 << 32, -1<<32 + 2, -4096, -4095, -3, -2, -1,
		0, 1, 2, 3, 4, 255, 256, 257, 4094, 4095, 4096, 4097,
		1<<16 + 2, 1 << 31, 1<<32 - 1, 1 << 32, 1<<32 + 2, 1<<62 - 1, 1 << 62, math.MaxInt,
	}
}

func rightPtr(at int) bool {
	return at == 0 || at >= 2 && at <= 4095
}

// holdCheck holds Check, Bytes and, of what Bytes writes, Parse against what is to be told of n.
func holdCheck(t *testing.T, n api.Node, right bool) {
	t.Helper()
	want := api.ErrArg
	if right {
		want = api.OK
	}
	if e := Check(n); e != want {
		t.Errorf("Check of %v: %d, want %d", n, e, want)
	}
	b, e := Bytes(n)
	if e != want {
		t.Errorf("Bytes of %v: %d, want %d", n, e, want)
	}
	if !right {
		if len(b) != 0 {
			t.Errorf("Bytes of %v: %v beside an error", n, b)
		}
		return
	}
	if !bytes.Equal(b, laidOf(n)) {
		t.Errorf("Bytes of %v: %v", n, b)
	}
	if got, e := Parse(b); got != n || e != api.OK {
		t.Errorf("Parse of %v: %v, %d", n, got, e)
	}
}

// P7.1: Check, the level at its edges, its pointers right.
func TestCheckOfTheLevel(t *testing.T) {
	for _, level := range edges() {
		right := level >= 0 && level <= 2
		n := sample()
		n.Level = level
		holdCheck(t, n, right)
		holdCheck(t, api.Node{Level: level, Ptr: [8]int{2, 2, 2, 2, 2, 2, 2, 2}}, right)
		for i := range 8 {
			holdCheck(t, alone(level, i, 4095), right)
		}
	}
}

// P7.1: Check, each pointer at its edges, all others right.
func TestCheckOfEachPointer(t *testing.T) {
	for level := range 3 {
		base := sample()
		base.Level = level
		for i := range 8 {
			for _, at := range edges() {
				holdCheck(t, with(base, i, at), rightPtr(at))
				holdCheck(t, alone(level, i, at), rightPtr(at) && at != 0)
			}
		}
	}
}

// P7.1: Check, all pointers 0, and just one that is not, at each place.
func TestCheckOfNoPointer(t *testing.T) {
	for level := -1; level <= 3; level++ {
		holdCheck(t, api.Node{Level: level}, false)
		for i := range 8 {
			for _, at := range []int{2, 3, 256, 4095} {
				holdCheck(t, alone(level, i, at), level >= 0 && level <= 2)
			}
		}
	}
}

// P7.1: Check, two pointers at their edges together: one that is right, or two wrong ones that cancel out, hide none.
func TestCheckOfTwoPointers(t *testing.T) {
	for i := range 8 {
		for j := range 8 {
			if i == j {
				continue
			}
			for _, one := range edges() {
				for _, two := range []int{-2, -1, 0, 1, 2, 4095, 4096, math.MinInt, math.MaxInt} {
					right := rightPtr(one) && rightPtr(two) && (one != 0 || two != 0)
					holdCheck(t, with(alone(2, i, one), j, two), right)
				}
			}
		}
	}
}

// P7.1: Check, all eight pointers the same.
func TestCheckOfEqualPointers(t *testing.T) {
	for _, at := range edges() {
		n := api.Node{Ptr: [8]int{at, at, at, at, at, at, at, at}}
		holdCheck(t, n, rightPtr(at) && at != 0)
	}
}

// P7.1: Bytes, where each number lies, the zeros, the sum.
func TestBytesLaysEachNumber(t *testing.T) {
	b, e := Bytes(sample())
	want := []byte{
		'N', 'O', 'D', 'E',
		1, 0, 0, 0,
		2, 3, 0, 0,
		4, 5, 0, 0,
		6, 7, 0, 0,
		8, 9, 0, 0,
		0x0A, 0x0B, 0, 0,
		0x0C, 0x0D, 0, 0,
		0x0E, 0x0F, 0, 0,
		0x10, 0, 0, 0,
		0, 0, 0, 0, 0, 0, 0, 0, 0, 0,
		0, 0, 0, 0, 0, 0, 0, 0, 0, 0,
	}
	sum := crc32.Checksum(want, table)
	want = append(want, byte(sum), byte(sum>>8), byte(sum>>16), byte(sum>>24))
	if e != api.OK || len(b) != 64 || !bytes.Equal(b, want) {
		t.Errorf("%v, %d, want %v", b, e, want)
	}
}

// P7.1: Bytes, each level and one pointer alone, at each place: all else is zeros.
func TestBytesOfOnePointer(t *testing.T) {
	for level := range 3 {
		for i := range 8 {
			for _, c := range []struct {
				at        int
				low, high byte
			}{{2, 2, 0}, {255, 255, 0}, {256, 0, 1}, {4095, 255, 15}} {
				want := make([]byte, 60)
				copy(want, "NODE")
				want[4] = byte(level)
				want[8+4*i], want[9+4*i] = c.low, c.high
				b, e := Bytes(alone(level, i, c.at))
				if e != api.OK || !bytes.Equal(b, sealed(want)) {
					t.Errorf("level %d, pointer %d as %d: %v, %d", level, i, c.at, b, e)
				}
			}
		}
	}
}

// holdRefused holds Parse against an error, and nothing beside it.
func holdRefused(t *testing.T, name string, b []byte, want api.Errno) {
	t.Helper()
	if n, e := Parse(b); n != (api.Node{}) || e != want {
		t.Errorf("%s: %v, %d, want %d alone", name, n, e, want)
	}
}

// wrong answers a block of numbers that may not be, with its sum.
func wrong() []byte {
	return laid(3, [8]uint32{1, 4096, 1, 1, 1, 1, 1, 1})
}

// P7.1: Parse, blocks of other lengths, whatever else they are.
func TestParseOfOtherLengths(t *testing.T) {
	b := laidOf(sample())
	holdRefused(t, "nil", nil, api.ErrLen)
	holdRefused(t, "no bytes", []byte{}, api.ErrLen)
	for length := range 64 {
		holdRefused(t, "first bytes", b[:length], api.ErrLen)
		holdRefused(t, "last bytes", b[64-length:], api.ErrLen)
		holdRefused(t, "zeros", make([]byte, length), api.ErrLen)
		holdRefused(t, "first bytes of wrong numbers", wrong()[:length], api.ErrLen)
	}
	for _, more := range []int{1, 2, 4, 64, 192} {
		holdRefused(t, "bytes behind", append(slices.Clone(b), make([]byte, more)...), api.ErrLen)
		holdRefused(t, "bytes ahead", append(make([]byte, more), b...), api.ErrLen)
	}
	// Of its own sum, but too short or too long.
	for _, length := range []int{40, 59, 61} {
		other := append(slices.Clone(b[:40]), make([]byte, length-40)...)
		other = binary.LittleEndian.AppendUint32(other, crc32.Checksum(other, table))
		holdRefused(t, "another length with its sum", other, api.ErrLen)
	}
}

// P7.1: Parse, each byte of the name changed to each other one: told ahead of the sum and of all else.
func TestParseOfOtherNames(t *testing.T) {
	b := laidOf(sample())
	for at := range 4 {
		for c := range 256 {
			if byte(c) == b[at] {
				continue
			}
			other := changed(b, at, byte(c))
			holdRefused(t, "a name without its sum", other, api.ErrMagic)
			holdRefused(t, "a name with its sum", sealed(other), api.ErrMagic)
			holdRefused(t, "a name and numbers", sealed(changed(wrong(), at, byte(c))), api.ErrMagic)
			holdRefused(t, "a name and a zero", sealed(changed(other, 40, 1)), api.ErrMagic)
			whole := sealed(other)
			holdRefused(t, "a name and the sum", changed(whole, 63, ^whole[63]), api.ErrMagic)
		}
	}
	for _, name := range []string{"node", "EDON", "WCUT", "\x00\x00\x00\x00", "ODEN"} {
		holdRefused(t, name, sealed(append([]byte(name), b[4:]...)), api.ErrMagic)
	}
	holdRefused(t, "a block of zeros", make([]byte, 64), api.ErrMagic)
	holdRefused(t, "a block of ones", bytes.Repeat([]byte{255}, 64), api.ErrMagic)
}

// P7.1: Parse, any bit changed behind the name: the sum does not fit, and that is told ahead of what the bit means.
func TestParseOfOtherSums(t *testing.T) {
	for _, n := range []api.Node{sample(), alone(0, 7, 2), alone(2, 0, 4095)} {
		b := laidOf(n)
		for at := 4; at < 64; at++ {
			for bit := range 8 {
				holdRefused(t, "a bit", changed(b, at, b[at]^1<<bit), api.ErrSum)
			}
		}
		holdRefused(t, "sum 0", append(slices.Clone(b[:60]), 0, 0, 0, 0), api.ErrSum)
		turned := slices.Clone(b)
		slices.Reverse(turned[60:])
		holdRefused(t, "the greatest byte first", turned, api.ErrSum)
		part := binary.LittleEndian.AppendUint32(slices.Clone(b[:60]), crc32.Checksum(b[:40], table))
		holdRefused(t, "the sum of the numbers alone", part, api.ErrSum)
	}
	bad := wrong()
	holdRefused(t, "the sum and numbers", changed(bad, 60, ^bad[60]), api.ErrSum)
	filled := sealed(changed(laidOf(sample()), 50, 1))
	holdRefused(t, "the sum and a zero", changed(filled, 60, ^filled[60]), api.ErrSum)
	none := laid(0, [8]uint32{})
	holdRefused(t, "the sum and no pointer", changed(none, 61, ^none[61]), api.ErrSum)
}

// holdLaid holds Parse of a block of these numbers against what is to be told of them.
func holdLaid(t *testing.T, level uint32, ptr [8]uint32, right bool) {
	t.Helper()
	b := laid(level, ptr)
	if !right {
		holdRefused(t, "a number", b, api.ErrArg)
		return
	}
	want := api.Node{Level: int(level)}
	for i, at := range ptr {
		want.Ptr[i] = int(at)
	}
	if n, e := Parse(b); n != want || e != api.OK {
		t.Errorf("Parse of %v: %v, %d, want %v", b, n, e, want)
	}
}

// P7.1: Parse, each number at its edges, with a sum that fits.
func TestParseOfOtherNumbers(t *testing.T) {
	numbers := []uint32{0, 1, 2, 3, 4, 255, 256, 257, 4094, 4095, 4096, 4097, 1 << 16, 1<<16 + 2, 1<<24 + 2, 1 << 31, 1<<31 + 2, math.MaxUint32 - 1, math.MaxUint32}
	for _, n := range numbers {
		holdLaid(t, n, [8]uint32{2, 3, 4, 5, 6, 7, 8, 9}, n <= 2)
		holdLaid(t, n, [8]uint32{7: 4095}, n <= 2)
		holdLaid(t, n, [8]uint32{}, false)
		for level := range uint32(4) {
			for i := range 8 {
				right := level <= 2 && rightPtr(int(n))
				full := [8]uint32{2, 3, 4, 5, 6, 7, 8, 9}
				full[i] = n
				holdLaid(t, level, full, right)
				var one [8]uint32
				one[i] = n
				holdLaid(t, level, one, right && n != 0)
			}
		}
	}
}

// P7.1: Parse, each byte that must be zero put to each other one, with a sum that fits.
func TestParseOfOtherZeros(t *testing.T) {
	b := laidOf(sample())
	for at := 40; at < 60; at++ {
		for c := 1; c < 256; c++ {
			holdRefused(t, "a zero", sealed(changed(b, at, byte(c))), api.ErrArg)
		}
	}
	holdRefused(t, "a zero and numbers", sealed(changed(wrong(), 59, 1)), api.ErrArg)
	holdRefused(t, "a zero and no pointer", sealed(changed(laid(0, [8]uint32{}), 40, 2)), api.ErrArg)
}

// P7.1, P7.2: a block parses just if it is the one that Bytes writes of what Parse answers.
func TestParseTakesWhatBytesWritesAlone(t *testing.T) {
	base := laidOf(sample())
	taken := 0
	for at := 4; at < 60; at++ {
		for c := range 256 {
			b := sealed(changed(base, at, byte(c)))
			n, e := Parse(b)
			if e != api.OK {
				continue
			}
			taken++
			if out, e := Bytes(n); e != api.OK || !bytes.Equal(out, b) {
				t.Errorf("byte %d as %d: parses as %v, which is written as %v, %d", at, c, n, out, e)
			}
		}
	}
	// Levels 0 to 2; of the first seven pointers each low byte, of the last one each but 1; of each pointer the high bytes 0 to 15; every other byte as it is alone.
	if want := 3 + 7*256 + 255 + 8*16 + (3 + 8*2 + 20); taken != want {
		t.Errorf("%d blocks parse, want %d", taken, want)
	}
}

// P7.2: what is written is read, for all levels and each choice of three numbers for the pointers.
func TestWhatIsWrittenIsRead(t *testing.T) {
	choices := [3]int{0, 2, 4095}
	count := 0
	for level := range 3 {
		for code := 1; code < 6561; code++ {
			n := api.Node{Level: level}
			left := code
			for i := range n.Ptr {
				n.Ptr[i] = choices[left%3]
				left /= 3
			}
			holdCheck(t, n, true)
			count++
		}
	}
	if count != 3*6560 {
		t.Error("other than all", count)
	}
}

// P7.2: what is written is read, for each block that a pointer may lead to.
func TestEachBlockIsWrittenAndRead(t *testing.T) {
	for at := range 4097 {
		n := alone(at%3, at%8, at)
		holdCheck(t, n, rightPtr(at) && at != 0)
	}
}

// holdPlace holds Place against a pointer and what is left.
func holdPlace(t *testing.T, sector, level, at, rest int) {
	t.Helper()
	if a, r, e := Place(sector, level); a != at || r != rest || e != api.OK {
		t.Errorf("Place of %d, level %d: %d, %d, %d, want %d, %d", sector, level, a, r, e, at, rest)
	}
}

// holdNoPlace holds Place against an error, and nothing beside it.
func holdNoPlace(t *testing.T, sector, level int) {
	t.Helper()
	if a, r, e := Place(sector, level); a != 0 || r != 0 || e != api.ErrArg {
		t.Errorf("Place of %d, level %d: %d, %d, %d, want an error alone", sector, level, a, r, e)
	}
}

// P7.1: Place, the chapter's example and the edges of each level.
func TestPlaceAtItsEdges(t *testing.T) {
	for _, c := range [][4]int{
		{75, 2, 1, 11},
		{11, 1, 1, 3},
		{3, 0, 3, 0},
		{0, 0, 0, 0},
		{1, 0, 1, 0},
		{7, 0, 7, 0},
		{0, 1, 0, 0},
		{7, 1, 0, 7},
		{8, 1, 1, 0},
		{63, 1, 7, 7},
		{0, 2, 0, 0},
		{63, 2, 0, 63},
		{64, 2, 1, 0},
		{511, 2, 7, 63},
	} {
		holdPlace(t, c[0], c[1], c[2], c[3])
	}
}

// P7.1: Place, each sector of each level, gone through in order.
func TestPlaceOfEachSector(t *testing.T) {
	for level, below := range []int{1, 8, 64} {
		sector := 0
		for at := range 8 {
			for rest := range below {
				holdPlace(t, sector, level, at, rest)
				sector++
			}
		}
		holdNoPlace(t, sector, level)
	}
}

// P7.1: Place, from the top down: the three pointers are a sector's three digits.
func TestPlaceGoesDown(t *testing.T) {
	for sector := range 512 {
		a, rest, _ := Place(sector, 2)
		b, rest, _ := Place(rest, 1)
		c, rest, e := Place(rest, 0)
		if a*64+b*8+c != sector || rest != 0 || e != api.OK {
			t.Errorf("sector %d: %d, %d, %d, %d left, %d", sector, a, b, c, rest, e)
		}
	}
}

// P7.1: Place, sectors and levels that are none.
func TestPlaceRefuses(t *testing.T) {
	far := []int{math.MinInt, math.MinInt + 1, -1 << 32, -512, -64, -8, -2, -1, 512, 513, 4096, 1 << 32, 1 << 62, math.MaxInt - 1, math.MaxInt}
	for level := range 3 {
		for _, sector := range far {
			holdNoPlace(t, sector, level)
		}
	}
	for _, c := range [][2]int{{8, 0}, {9, 0}, {63, 0}, {64, 0}, {511, 0}, {64, 1}, {65, 1}, {511, 1}, {512, 2}} {
		holdNoPlace(t, c[0], c[1])
	}
	for _, level := range []int{math.MinInt, -1 << 32, -2, -1, 3, 4, 20, 21, 22, 63, 64, 1 << 32, 1<<32 + 1, 1 << 62, math.MaxInt - 1, math.MaxInt} {
		for _, sector := range append([]int{0, 1, 7, 8, 63, 64, 511}, far...) {
			holdNoPlace(t, sector, level)
		}
	}
}

// R2, R6: what is handed in stays, its spare room too, and nothing behind its length is looked at.
func TestNothingHandedInIsChanged(t *testing.T) {
	room := slices.Concat(laidOf(sample()), bytes.Repeat([]byte{7}, 64), laidOf(alone(2, 3, 4)))
	kept := slices.Clone(room)
	if n, e := Parse(room[:64]); n != sample() || e != api.OK {
		t.Error("a block with spare room:", n, e)
	}
	if n, e := Parse(room[128:]); n != alone(2, 3, 4) || e != api.OK {
		t.Error("a block behind others:", n, e)
	}
	holdRefused(t, "a block that ends ahead", room[:63], api.ErrLen)
	holdRefused(t, "a block of another name", room[64:128], api.ErrMagic)
	if !bytes.Equal(room, kept) {
		t.Error("what was handed in is changed")
	}
	n := sample()
	Check(n)
	if _, e := Bytes(n); e != api.OK || n != sample() {
		t.Error("a node that was handed in is changed", n, e)
	}
}

// R2: what Parse answers stays, whatever becomes of the block.
func TestParseAnswersNewMemory(t *testing.T) {
	b := laidOf(sample())
	n, e := Parse(b)
	clear(b)
	if n != sample() || e != api.OK {
		t.Error("the answer hangs on the block", n, e)
	}
}

// R2, R3: each answer is new memory, spare room too, and the next one is the same.
func TestBytesAnswersNewMemory(t *testing.T) {
	first, _ := Bytes(sample())
	full := first[:cap(first)]
	for i := range full {
		full[i] = 99
	}
	second, e := Bytes(sample())
	if e != api.OK || !bytes.Equal(second, laidOf(sample())) {
		t.Error("a later answer is another", second, e)
	}
	full = second[:cap(second)]
	for i := range full {
		full[i] = 98
	}
	if !bytes.Equal(first, bytes.Repeat([]byte{99}, 64)) {
		t.Error("two answers share memory")
	}
}

// R3: a refused call changes nothing of what later ones answer.
func TestRefusedCallsLeaveNothing(t *testing.T) {
	b := laidOf(sample())
	for range 2 {
		holdCheck(t, sample(), true)
		holdCheck(t, api.Node{Level: 3}, false)
		holdRefused(t, "the sum", changed(b, 63, ^b[63]), api.ErrSum)
		holdNoPlace(t, 512, 2)
		holdPlace(t, 75, 2, 1, 11)
	}
}
