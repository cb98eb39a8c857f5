package record

import (
	"bytes"
	"encoding/binary"
	"hash/crc32"
	"math"
	"slices"
	"testing"

	"woodcut/api"
)

var table = crc32.MakeTable(crc32.Castagnoli)

// maxId is the greatest id, told here by other means than the program's.
const maxId = 0x3FFF_FFFF_FFFF_FFFF

// sealed answers b's first 60 bytes with their sum behind, worked out by other means than the program's.
func sealed(b []byte) []byte {
	ahead := slices.Clone(b[:60])
	return binary.LittleEndian.AppendUint32(ahead, crc32.Checksum(ahead, table))
}

// numbers are those of a block, right ones or not.
type numbers struct {
	next                             uint32
	id, parent                       uint64
	root, size, kind, frames, digest uint32
}

// laid answers the block of these numbers.
func laid(n numbers) []byte {
	le := binary.LittleEndian
	b := []byte{'S', 'N', 'A', 'P'}
	b = le.AppendUint32(b, n.next)
	b = le.AppendUint64(b, n.id)
	b = le.AppendUint64(b, n.parent)
	for _, x := range []uint32{n.root, n.size, n.kind, n.frames, n.digest} {
		b = le.AppendUint32(b, x)
	}
	return sealed(append(b, make([]byte, 16)...))
}

func numbersOf(r api.Record) numbers {
	return numbers{
		uint32(r.Next), uint64(r.Id), uint64(r.Parent),
		uint32(r.Root), uint32(r.Size), uint32(r.Kind), uint32(r.Frames), uint32(r.Digest),
	}
}

func laidOf(r api.Record) []byte {
	return laid(numbersOf(r))
}

// changed answers b with the byte at at put to c.
func changed(b []byte, at int, c byte) []byte {
	out := slices.Clone(b)
	out[at] = c
	return out
}

// pending has no byte of a number twice, but those of its kind and its size.
func pending() api.Record {
	return api.Record{
		Next:   0x0203,
		Id:     0x1415161718191A1B,
		Parent: 0x2425262728292A2B,
		Root:   0x0405,
		Size:   0x0106,
		Kind:   1,
		Frames: 0x3435,
		Digest: 0x44454647,
	}
}

// whole is such a one, of the other kind.
func whole() api.Record {
	r := pending()
	r.Kind, r.Frames, r.Digest = 0, 0, 0
	return r
}

// samples are right records: the least and the greatest of each kind, and some between.
func samples() []api.Record {
	return []api.Record{
		whole(), pending(),
		{Id: 1},
		{Id: 1, Kind: 1, Frames: 1},
		{Next: 4095, Id: maxId, Parent: maxId - 1, Root: 4095, Size: 512},
		{Next: 4095, Id: maxId - 1, Parent: maxId, Root: 4095, Size: 512, Kind: 1, Frames: 65535, Digest: 1<<32 - 1},
		{Next: 2, Id: 2, Parent: 1, Root: 2},
	}
}

// edges are numbers at which one of a record begins or ends to be right, and far ones, some of which would be right if they wrapped.
func edges() []int {
	return []int{
		math.MinInt, math.MinInt + 1, math.MinInt + 2, -1 << 62, -1 << 32, -1<<32 + 1, -1<<32 + 2, -65536, -4096, -512, -3, -2, -1,
		0, 1, 2, 3, 4, 255, 256, 257, 511, 512, 513, 4094, 4095, 4096, 4097,
		65534, 65535, 65536, 65537, 1 << 31, 1<<32 - 2, 1<<32 - 1, 1 << 32, 1<<32 + 1, 1<<32 + 2,
		maxId - 1, maxId, maxId + 1, maxId + 2, math.MaxInt - 1, math.MaxInt,
	}
}

// right tells whether r is, number by number.
func right(r api.Record) bool {
	block := func(n int) bool { return n == 0 || n >= 2 && n <= 4095 }
	id := func(n int) bool { return n >= 1 && n <= maxId }
	switch {
	case !block(r.Next), !block(r.Root):
		return false
	case !id(r.Id), r.Parent != 0 && !id(r.Parent), r.Parent == r.Id:
		return false
	case r.Size < 0, r.Size > 512:
		return false
	case r.Kind == 0:
		return r.Frames == 0 && r.Digest == 0
	case r.Kind == 1:
		return r.Frames >= 1 && r.Frames <= 65535 && r.Digest >= 0 && r.Digest <= 0xFFFFFFFF
	}
	return false
}

// fields answers where each number of r stands.
func fields(r *api.Record) []*int {
	return []*int{&r.Next, &r.Id, &r.Parent, &r.Root, &r.Size, &r.Kind, &r.Frames, &r.Digest}
}

// holdCheck holds Check, Bytes and, of what Bytes writes, Parse against what is to be told of r.
func holdCheck(t *testing.T, r api.Record, right bool) {
	t.Helper()
	want := api.ErrArg
	if right {
		want = api.OK
	}
	if e := Check(r); e != want {
		t.Errorf("Check of %+v: %d, want %d", r, e, want)
	}
	b, e := Bytes(r)
	if e != want {
		t.Errorf("Bytes of %+v: %d, want %d", r, e, want)
	}
	if !right {
		if len(b) != 0 {
			t.Errorf("Bytes of %+v: %v beside an error", r, b)
		}
		return
	}
	if !bytes.Equal(b, laidOf(r)) {
		t.Errorf("Bytes of %+v: %v", r, b)
	}
	if got, e := Parse(b); got != r || e != api.OK {
		t.Errorf("Parse of %+v: %+v, %d", r, got, e)
	}
}

// P8.1: Check, the chapter's example, and right records of both kinds.
func TestCheckOfRightRecords(t *testing.T) {
	holdCheck(t, api.Record{Next: 0, Id: 7, Parent: 3, Root: 0, Size: 9, Kind: api.Whole}, true)
	holdCheck(t, api.Record{Next: 0, Id: 7, Root: 0, Kind: api.Pending, Frames: 4, Digest: 5}, true)
	for _, r := range samples() {
		holdCheck(t, r, true)
	}
	holdCheck(t, api.Record{}, false)
}

// P8.1: Check, Next and Root at their edges.
func TestCheckOfBlocks(t *testing.T) {
	for _, base := range samples() {
		for at, want := range map[int]bool{
			-4095: false, -2: false, -1: false, 0: true, 1: false, 2: true, 3: true, 4095: true, 4096: false,
			1<<32 + 2: false, math.MinInt: false, math.MaxInt: false,
		} {
			next, root, both := base, base, base
			next.Next = at
			root.Root = at
			both.Next, both.Root = at, at
			holdCheck(t, next, want)
			holdCheck(t, root, want)
			holdCheck(t, both, want)
		}
	}
}

// P8.1: Check, Id and Parent at their edges, each beside the other one's.
func TestCheckOfIds(t *testing.T) {
	some := []int{math.MinInt, -1 << 62, -2, -1, 0, 1, 2, 255, 1 << 32, maxId - 1, maxId, maxId + 1, math.MaxInt}
	isId := func(n int) bool { return n > 0 && n <= 1<<62-1 }
	for _, base := range samples() {
		for _, id := range some {
			for _, parent := range some {
				r := base
				r.Id, r.Parent = id, parent
				holdCheck(t, r, isId(id) && (parent == 0 || isId(parent)) && id != parent)
			}
		}
	}
}

// P8.1: Check, a parent that is the record itself, and those beside it.
func TestCheckOfItsOwnParent(t *testing.T) {
	for _, id := range []int{2, 3, 255, 256, 1<<32 - 1, 1 << 32, 1<<32 + 1, 1 << 40, maxId - 1} {
		holdCheck(t, api.Record{Id: id, Parent: id}, false)
		holdCheck(t, api.Record{Id: id, Parent: id - 1}, true)
		holdCheck(t, api.Record{Id: id, Parent: id + 1}, true)
		holdCheck(t, api.Record{Id: id, Parent: id, Kind: 1, Frames: 1}, false)
	}
	// The same in their lower halves alone.
	holdCheck(t, api.Record{Id: 1<<32 + 5, Parent: 5}, true)
	holdCheck(t, api.Record{Id: 5, Parent: 1<<40 + 5}, true)
}

// P8.1: Check, Size at its edges.
func TestCheckOfSizes(t *testing.T) {
	for _, base := range samples() {
		for _, size := range edges() {
			r := base
			r.Size = size
			holdCheck(t, r, size >= 0 && size <= 512)
		}
	}
}

// P8.1: Check, each kind that there is, and others, with frames that either may have.
func TestCheckOfKinds(t *testing.T) {
	for _, kind := range edges() {
		holdCheck(t, api.Record{Id: 1, Kind: kind}, kind == 0)
		holdCheck(t, api.Record{Id: 1, Kind: kind, Frames: 1}, kind == 1)
		holdCheck(t, api.Record{Id: 1, Kind: kind, Frames: 65535, Digest: 9}, kind == 1)
		holdCheck(t, api.Record{Id: 1, Kind: kind, Digest: 9}, false)
	}
	if api.Whole != 0 || api.Pending != 1 {
		t.Error("the kinds are others")
	}
}

// P8.1: Check, Frames and Digest of a whole record.
func TestCheckOfWholeFrames(t *testing.T) {
	for _, frames := range edges() {
		for _, digest := range edges() {
			r := whole()
			r.Frames, r.Digest = frames, digest
			holdCheck(t, r, frames == 0 && digest == 0)
		}
	}
}

// P8.1: Check, Frames and Digest of a pending record.
func TestCheckOfPendingFrames(t *testing.T) {
	for _, frames := range edges() {
		for _, digest := range edges() {
			r := pending()
			r.Frames, r.Digest = frames, digest
			holdCheck(t, r, frames > 0 && frames < 65536 && digest >= 0 && digest < 1<<32)
		}
	}
}

// P8.1: Check, two numbers at their edges at once: none hides another.
func TestCheckOfTwoNumbers(t *testing.T) {
	for _, base := range samples() {
		for i := range 8 {
			for j := range i {
				for _, one := range edges() {
					for _, two := range edges() {
						r := base
						*fields(&r)[i] = one
						*fields(&r)[j] = two
						want := api.ErrArg
						if right(r) {
							want = api.OK
						}
						if e := Check(r); e != want {
							t.Fatalf("Check of %+v: %d, want %d", r, e, want)
						}
					}
				}
			}
		}
	}
}

// P8.1: Bytes, where each number lies, the zeros, the sum.
func TestBytesLaysEachNumber(t *testing.T) {
	b, e := Bytes(pending())
	want := []byte{
		'S', 'N', 'A', 'P',
		0x03, 0x02, 0, 0,
		0x1B, 0x1A, 0x19, 0x18, 0x17, 0x16, 0x15, 0x14,
		0x2B, 0x2A, 0x29, 0x28, 0x27, 0x26, 0x25, 0x24,
		0x05, 0x04, 0, 0,
		0x06, 0x01, 0, 0,
		1, 0, 0, 0,
		0x35, 0x34, 0, 0,
		0x47, 0x46, 0x45, 0x44,
		0, 0, 0, 0, 0, 0, 0, 0,
		0, 0, 0, 0, 0, 0, 0, 0,
	}
	sum := crc32.Checksum(want, table)
	want = append(want, byte(sum), byte(sum>>8), byte(sum>>16), byte(sum>>24))
	if e != api.OK || len(b) != 64 || !bytes.Equal(b, want) {
		t.Errorf("%v, %d, want %v", b, e, want)
	}
}

// P8.1: Bytes, one number at its greatest alone: all else is as it was.
func TestBytesOfOneNumber(t *testing.T) {
	for _, c := range []struct {
		field, n, at int
		laid         []byte
	}{
		{0, 4095, 4, []byte{255, 15, 0, 0}},
		{1, maxId, 8, []byte{255, 255, 255, 255, 255, 255, 255, 63}},
		{2, maxId, 16, []byte{255, 255, 255, 255, 255, 255, 255, 63}},
		{3, 4095, 24, []byte{255, 15, 0, 0}},
		{4, 512, 28, []byte{0, 2, 0, 0}},
		{6, 65535, 36, []byte{255, 255, 0, 0}},
		{7, 1<<32 - 1, 40, []byte{255, 255, 255, 255}},
	} {
		r := api.Record{Id: 1, Kind: 1, Frames: 1}
		*fields(&r)[c.field] = c.n
		want := make([]byte, 60)
		copy(want, "SNAP")
		want[8], want[32], want[36] = 1, 1, 1
		copy(want[c.at:], c.laid)
		if b, e := Bytes(r); e != api.OK || !bytes.Equal(b, sealed(want)) {
			t.Errorf("Bytes of %+v: %v, %d", r, b, e)
		}
	}
	want := make([]byte, 60)
	copy(want, "SNAP")
	want[8] = 1
	if b, e := Bytes(api.Record{Id: 1}); e != api.OK || !bytes.Equal(b, sealed(want)) {
		t.Errorf("Bytes of the least record: %v, %d", b, e)
	}
}

// holdRefused holds Parse against an error, and nothing beside it.
func holdRefused(t *testing.T, name string, b []byte, want api.Errno) {
	t.Helper()
	if r, e := Parse(b); r != (api.Record{}) || e != want {
		t.Errorf("%s: %+v, %d, want %d alone", name, r, e, want)
	}
}

// wrong answers a block of numbers that may not be, with its sum.
func wrong() []byte {
	return laid(numbers{1, 0, 1 << 63, 4096, 513, 2, 65536, 7})
}

// P8.1: Parse, blocks of other lengths, whatever else they are.
func TestParseOfOtherLengths(t *testing.T) {
	b := laidOf(pending())
	holdRefused(t, "nil", nil, api.ErrLen)
	holdRefused(t, "no bytes", []byte{}, api.ErrLen)
	for length := range 64 {
		holdRefused(t, "first bytes", b[:length], api.ErrLen)
		holdRefused(t, "last bytes", b[64-length:], api.ErrLen)
		holdRefused(t, "zeros", make([]byte, length), api.ErrLen)
		holdRefused(t, "first bytes of wrong numbers", wrong()[:length], api.ErrLen)
	}
	for _, more := range []int{1, 2, 4, 64, 192} {
		holdRefused(t, "bytes behind", append(slices.Clone(b), make([]byte, more)...), api.ErrLen)
		holdRefused(t, "bytes ahead", append(make([]byte, more), b...), api.ErrLen)
	}
	// Of its own sum, but too short or too long.
	for _, length := range []int{44, 59, 61} {
		other := append(slices.Clone(b[:44]), make([]byte, length-44)...)
		other = binary.LittleEndian.AppendUint32(other, crc32.Checksum(other, table))
		holdRefused(t, "another length with its sum", other, api.ErrLen)
	}
}

// P8.1: Parse, each byte of the name changed to each other one: told ahead of the sum and of all else.
func TestParseOfOtherNames(t *testing.T) {
	b := laidOf(pending())
	for at := range 4 {
		for c := range 256 {
			if byte(c) == b[at] {
				continue
			}
			other := changed(b, at, byte(c))
			holdRefused(t, "a name without its sum", other, api.ErrMagic)
			holdRefused(t, "a name with its sum", sealed(other), api.ErrMagic)
			holdRefused(t, "a name and numbers", sealed(changed(wrong(), at, byte(c))), api.ErrMagic)
			holdRefused(t, "a name and a zero", sealed(changed(other, 44, 1)), api.ErrMagic)
			full := sealed(other)
			holdRefused(t, "a name and the sum", changed(full, 63, ^full[63]), api.ErrMagic)
		}
	}
	for _, name := range []string{"snap", "PANS", "NODE", "WCUT", "\x00\x00\x00\x00", "NAPS"} {
		holdRefused(t, name, sealed(append([]byte(name), b[4:]...)), api.ErrMagic)
	}
	holdRefused(t, "a block of zeros", make([]byte, 64), api.ErrMagic)
	holdRefused(t, "a block of ones", bytes.Repeat([]byte{255}, 64), api.ErrMagic)
}

// P8.1: Parse, any bit changed behind the name: the sum does not fit, and that is told ahead of what the bit means.
func TestParseOfOtherSums(t *testing.T) {
	for _, r := range samples() {
		b := laidOf(r)
		for at := 4; at < 64; at++ {
			for bit := range 8 {
				holdRefused(t, "a bit", changed(b, at, b[at]^1<<bit), api.ErrSum)
			}
		}
		holdRefused(t, "sum 0", append(slices.Clone(b[:60]), 0, 0, 0, 0), api.ErrSum)
		turned := slices.Clone(b)
		slices.Reverse(turned[60:])
		holdRefused(t, "the greatest byte first", turned, api.ErrSum)
		part := binary.LittleEndian.AppendUint32(slices.Clone(b[:60]), crc32.Checksum(b[:44], table))
		holdRefused(t, "the sum of the numbers alone", part, api.ErrSum)
	}
	bad := wrong()
	holdRefused(t, "the sum and numbers", changed(bad, 60, ^bad[60]), api.ErrSum)
	filled := sealed(changed(laidOf(pending()), 50, 1))
	holdRefused(t, "the sum and a zero", changed(filled, 60, ^filled[60]), api.ErrSum)
	big := laid(numbers{id: 1 << 63})
	holdRefused(t, "the sum and a number above MaxId", changed(big, 61, ^big[61]), api.ErrSum)
}

// holdLaid holds Parse of a block of these numbers against what is to be told of them.
func holdLaid(t *testing.T, n numbers, right bool) {
	t.Helper()
	if !right {
		holdRefused(t, "a number", laid(n), api.ErrArg)
		return
	}
	want := api.Record{
		Next: int(n.next), Id: int(n.id), Parent: int(n.parent), Root: int(n.root),
		Size: int(n.size), Kind: int(n.kind), Frames: int(n.frames), Digest: int(n.digest),
	}
	if r, e := Parse(laid(n)); r != want || e != api.OK {
		t.Errorf("Parse of %+v: %+v, %d", n, r, e)
	}
}

// P8.1: Parse, each number of four bytes at its edges, with a sum that fits.
func TestParseOfOtherNumbers(t *testing.T) {
	some := []uint32{
		0, 1, 2, 3, 4, 255, 256, 257, 511, 512, 513, 4094, 4095, 4096, 4097, 65534, 65535, 65536, 65537,
		1<<16 + 2, 1<<24 + 2, 1 << 31, 1<<31 + 2, math.MaxUint32 - 1, math.MaxUint32,
	}
	for _, base := range samples() {
		open := base.Kind == 1
		for _, x := range some {
			n := numbersOf(base)
			n.next = x
			holdLaid(t, n, x != 1 && x < 4096)
			n = numbersOf(base)
			n.root = x
			holdLaid(t, n, x != 1 && x < 4096)
			n = numbersOf(base)
			n.size = x
			holdLaid(t, n, x <= 512)
			n = numbersOf(base)
			n.kind = x
			holdLaid(t, n, x == uint32(base.Kind))
			n = numbersOf(base)
			n.frames = x
			holdLaid(t, n, open && x > 0 && x < 65536 || !open && x == 0)
			n = numbersOf(base)
			n.digest = x
			holdLaid(t, n, open || x == 0)
		}
	}
}

// P8.1: Parse, the numbers of eight bytes at their edges, those above MaxId among them, with a sum that fits.
func TestParseOfOtherIds(t *testing.T) {
	some := []uint64{
		0, 1, 2, 255, 1 << 32, maxId - 1, maxId, maxId + 1, maxId + 2, 1<<62 + 1<<61,
		1<<63 - 1, 1 << 63, 1<<63 + 1, 1<<63 + 1<<62 + 2, math.MaxUint64 - 1, math.MaxUint64,
	}
	for _, base := range samples() {
		for _, id := range some {
			for _, parent := range some {
				n := numbersOf(base)
				n.id, n.parent = id, parent
				holdLaid(t, n, id != 0 && id <= maxId && parent <= maxId && id != parent)
			}
		}
	}
}

// P8.1: Parse, each byte that must be zero put to each other one, with a sum that fits.
func TestParseOfOtherZeros(t *testing.T) {
	for _, r := range []api.Record{whole(), pending()} {
		b := laidOf(r)
		for at := 44; at < 60; at++ {
			for c := 1; c < 256; c++ {
				holdRefused(t, "a zero", sealed(changed(b, at, byte(c))), api.ErrArg)
			}
		}
	}
	holdRefused(t, "a zero and numbers", sealed(changed(wrong(), 59, 1)), api.ErrArg)
	holdRefused(t, "a zero and no id", sealed(changed(laid(numbers{}), 44, 2)), api.ErrArg)
}

// P8.1, P8.2: a block parses just if its numbers are right, and is then the one that Bytes writes of what Parse answers.
func TestParseTakesWhatBytesWritesAlone(t *testing.T) {
	taken := 0
	base := laidOf(pending())
	for at := 4; at < 60; at++ {
		for c := range 256 {
			b := sealed(changed(base, at, byte(c)))
			r, e := Parse(b)
			if e != api.OK {
				continue
			}
			taken++
			if out, e := Bytes(r); e != api.OK || !bytes.Equal(out, b) {
				t.Errorf("byte %d as %d: parses as %+v, which is written as %v, %d", at, c, r, out, e)
			}
		}
	}
	// Next and Root: each low byte, 16 high ones, two alone; each of an id's seven low bytes, 64 of its greatest; Size: each low byte, of the high ones 0 and 1 and not 2 (there are lower bits); Kind: one; Frames: two bytes; Digest: four; the rest as it is.
	blocks := 2 * (256 + 16 + 2)
	twoIds := 2 * (7*256 + 64)
	rest := (256 + 2 + 2) + 4 + (2*256 + 2) + 4*256 + 16
	if want := blocks + twoIds + rest; taken != want {
		t.Errorf("%d blocks parse, want %d", taken, want)
	}
}

// P8.2: what is written is read, for each choice of three numbers for each place.
func TestWhatIsWrittenIsRead(t *testing.T) {
	blocks := []int{0, 2, 4095}
	frames := [][3]int{{0, 0, 0}, {1, 1, 0}, {1, 1, 1<<32 - 1}, {1, 65535, 0}, {1, 65535, 1<<32 - 1}, {1, 300, 1 << 31}}
	for _, next := range blocks {
		for _, root := range blocks {
			for _, id := range []int{1, 1 << 33, maxId} {
				for _, parent := range []int{0, 2, maxId - 1} {
					for _, size := range []int{0, 255, 512} {
						for _, f := range frames {
							holdCheck(t, api.Record{Next: next, Id: id, Parent: parent, Root: root, Size: size, Kind: f[0], Frames: f[1], Digest: f[2]}, true)
						}
					}
				}
			}
		}
	}
}

// P8.2: what is written is read, for each block, each size, each count of frames.
func TestEachNumberIsWrittenAndRead(t *testing.T) {
	for at := range 4097 {
		block := at != 1 && at < 4096
		holdCheck(t, api.Record{Id: at + 1, Next: at}, block)
		holdCheck(t, api.Record{Id: at + 1, Root: at}, block)
		holdCheck(t, api.Record{Id: at + 1, Size: at}, at <= 512)
	}
	for frames := range 65537 {
		r := pending()
		r.Frames, r.Digest = frames, frames<<16
		b, e := Bytes(r)
		if frames == 0 || frames == 65536 {
			holdCheck(t, r, false)
			continue
		}
		if got, other := Parse(b); got != r || e != api.OK || other != api.OK {
			t.Fatalf("%d frames: %+v, %d, %d", frames, got, e, other)
		}
	}
}

// R2, R6: what is handed in stays, its spare room too, and nothing behind its length is looked at.
func TestNothingHandedInIsChanged(t *testing.T) {
	room := slices.Concat(laidOf(pending()), bytes.Repeat([]byte{7}, 64), laidOf(whole()))
	kept := slices.Clone(room)
	if r, e := Parse(room[:64]); r != pending() || e != api.OK {
		t.Error("a block with spare room:", r, e)
	}
	if r, e := Parse(room[128:]); r != whole() || e != api.OK {
		t.Error("a block behind others:", r, e)
	}
	holdRefused(t, "a block that ends ahead", room[:63], api.ErrLen)
	holdRefused(t, "a block of another name", room[64:128], api.ErrMagic)
	if !bytes.Equal(room, kept) {
		t.Error("what was handed in is changed")
	}
	r := pending()
	Check(r)
	if _, e := Bytes(r); e != api.OK || r != pending() {
		t.Error("a record that was handed in is changed", r, e)
	}
}

// R2: what Parse answers stays, whatever becomes of the block.
func TestParseAnswersNewMemory(t *testing.T) {
	b := laidOf(pending())
	r, e := Parse(b)
	clear(b)
	if r != pending() || e != api.OK {
		t.Error("the answer hangs on the block", r, e)
	}
}

// R2, R3: each answer is new memory, spare room too, and the next one is the same.
func TestBytesAnswersNewMemory(t *testing.T) {
	first, _ := Bytes(pending())
	full := first[:cap(first)]
	for i := range full {
		full[i] = 99
	}
	second, e := Bytes(pending())
	if e != api.OK || !bytes.Equal(second, laidOf(pending())) {
		t.Error("a later answer is another", second, e)
	}
	full = second[:cap(second)]
	for i := range full {
		full[i] = 98
	}
	if !bytes.Equal(first, bytes.Repeat([]byte{99}, 64)) {
		t.Error("two answers share memory")
	}
}

// R3: a refused call changes nothing of what later ones answer.
func TestRefusedCallsLeaveNothing(t *testing.T) {
	b := laidOf(whole())
	for range 2 {
		holdCheck(t, whole(), true)
		holdCheck(t, pending(), true)
		holdCheck(t, api.Record{Id: 1, Parent: 1}, false)
		holdRefused(t, "the sum", changed(b, 63, ^b[63]), api.ErrSum)
		holdRefused(t, "a number", wrong(), api.ErrArg)
	}
}
