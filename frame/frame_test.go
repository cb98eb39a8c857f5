package frame

import (
	"bytes"
	"encoding/binary"
	"hash/crc32"
	"math"
	"reflect"
	"slices"
	"testing"

	"woodcut/api"
)

var table = crc32.MakeTable(crc32.Castagnoli)

// maxId is the greatest id, told here by other means than the program's.
const maxId = 0x3FFF_FFFF_FFFF_FFFF

// sealed answers b with its sum behind, worked out by other means than the program's.
func sealed(b []byte) []byte {
	return binary.LittleEndian.AppendUint32(slices.Clone(b), crc32.Checksum(b, table))
}

// four answers these numbers, each in four bytes.
func four(numbers ...uint32) []byte {
	var b []byte
	for _, n := range numbers {
		b = binary.LittleEndian.AppendUint32(b, n)
	}
	return b
}

// eight answers these numbers, each in eight bytes.
func eight(numbers ...uint64) []byte {
	var b []byte
	for _, n := range numbers {
		b = binary.LittleEndian.AppendUint64(b, n)
	}
	return b
}

// headed answers a frame's bytes ahead of its payload.
func headed(seq, kind, length uint32) []byte {
	return append([]byte{'F', 'R', 'A', 'M'}, four(seq, kind, length)...)
}

// laid answers the frame of this payload, right or not.
func laid(seq, kind uint32, payload []byte) []byte {
	return sealed(append(headed(seq, kind, uint32(len(payload))), payload...))
}

// payloadOf answers the payload of a right command.
func payloadOf(c api.Command) []byte {
	switch c.Kind {
	case 1:
		return append(eight(uint64(c.Id), uint64(c.Parent)), four(uint32(c.Size), uint32(c.Count))...)
	case 2:
		return append(four(uint32(c.From), uint32(len(c.Data)/64)), c.Data...)
	case 3:
		return four(uint32(c.From), uint32(c.Count))
	case 4:
		return four(uint32(c.From), uint32(c.Count), uint32(c.Source))
	case 5:
		return four(uint32(c.Size))
	}
	return four(uint32(c.Count), uint32(c.Digest))
}

func laidOf(seq uint32, c api.Command) []byte {
	return laid(seq, uint32(c.Kind), payloadOf(c))
}

// changed answers b with the byte at at put to c.
func changed(b []byte, at int, c byte) []byte {
	out := slices.Clone(b)
	out[at] = c
	return out
}

// filled answers length bytes, of which none is the next one's.
func filled(length int) []byte {
	b := make([]byte, length)
	for i := range b {
		b[i] = byte(i*7 + i/64 + 1)
	}
	return b
}

// samples are right commands: of each kind an ordinary one, the least and the greatest.
func samples() []api.Command {
	return []api.Command{
		{Kind: 1, Id: 0x1415161718191A1B, Parent: 0x2425262728292A2B, Size: 0x0106, Count: 0x3435},
		{Kind: 1, Id: 1},
		{Kind: 1, Id: maxId, Parent: maxId - 1, Size: 512, Count: 65535},
		{Kind: 2, From: 0x0102, Data: filled(192)},
		{Kind: 2, Data: make([]byte, 64)},
		{Kind: 2, From: 504, Data: bytes.Repeat([]byte{255}, 512)},
		{Kind: 3, From: 0x0103, Count: 0x42},
		{Kind: 3, Count: 1},
		{Kind: 3, Count: 512},
		{Kind: 3, From: 511, Count: 1},
		{Kind: 4, From: 0x0103, Count: 0x42, Source: 0x0154},
		{Kind: 4, Count: 1},
		{Kind: 4, Count: 512},
		{Kind: 4, From: 511, Count: 1, Source: 511},
		{Kind: 5, Size: 0x0106},
		{Kind: 5},
		{Kind: 5, Size: 512},
		{Kind: 6, Count: 0x3435, Digest: 0x44454647},
		{Kind: 6},
		{Kind: 6, Count: 65535, Digest: 1<<32 - 1},
	}
}

// edges are numbers at which a field begins or ends to be right, and far ones, some of which would be right if they wrapped.
func edges() []int {
	return []int{
		math.MinInt, math.MinInt + 1, math.MinInt + 512, -1 << 62, -1 << 32, -1<<32 + 1, -1<<32 + 2, -65536, -513, -512, -511, -2, -1,
		0, 1, 2, 3, 8, 63, 64, 65, 255, 256, 257, 510, 511, 512, 513,
		65534, 65535, 65536, 65537, 1 << 31, 1<<32 - 2, 1<<32 - 1, 1 << 32, 1<<32 + 1, 1<<32 + 512,
		maxId - 1, maxId, maxId + 1, maxId + 2, math.MaxInt - 512, math.MaxInt - 511, math.MaxInt - 1, math.MaxInt,
	}
}

// fields answers where each number of c stands, but its kind.
func fields(c *api.Command) []*int {
	return []*int{&c.Id, &c.Parent, &c.Size, &c.From, &c.Count, &c.Source, &c.Digest}
}

// owned tells of each of these numbers whether a command of this kind has it.
func owned(kind int) [7]bool {
	return map[int][7]bool{
		1: {true, true, true, false, true, false, false},
		2: {false, false, false, true, false, false, false},
		3: {false, false, false, true, true, false, false},
		4: {false, false, false, true, true, true, false},
		5: {false, false, true, false, false, false, false},
		6: {false, false, false, false, true, false, true},
	}[kind]
}

// right tells whether c is, number by number, each held against what it may be ahead of what two of them are together.
func right(c api.Command) bool {
	for i, has := range owned(c.Kind) {
		if !has && *fields(&c)[i] != 0 {
			return false
		}
	}
	if c.Kind != 2 && len(c.Data) != 0 {
		return false
	}
	run := func(from, count int) bool {
		return from >= 0 && from < 512 && count > 0 && count < 513 && from+count < 513
	}
	switch c.Kind {
	case 1:
		parent := c.Parent == 0 || c.Parent > 0 && c.Parent <= maxId && c.Parent != c.Id
		return c.Id > 0 && c.Id <= maxId && parent && c.Size >= 0 && c.Size < 513 && c.Count >= 0 && c.Count < 65536
	case 2:
		return slices.Contains([]int{64, 128, 192, 256, 320, 384, 448, 512}, len(c.Data)) && run(c.From, len(c.Data)/64)
	case 3:
		return run(c.From, c.Count)
	case 4:
		return run(c.From, c.Count) && run(c.Source, c.Count)
	case 5:
		return c.Size >= 0 && c.Size < 513
	case 6:
		return c.Count >= 0 && c.Count < 65536 && c.Digest >= 0 && c.Digest < 1<<32
	}
	return false
}

// same tells whether two commands are: nil and no bytes are one.
func same(a, b api.Command) bool {
	if !bytes.Equal(a.Data, b.Data) {
		return false
	}
	a.Data, b.Data = nil, nil
	return reflect.DeepEqual(a, b)
}

// holdCheck holds Check, Payload, Bytes and, of what Bytes writes, Parse against what is to be told of c.
func holdCheck(t *testing.T, c api.Command, right bool) {
	t.Helper()
	if !right {
		holdWrong(t, 7, c)
		return
	}
	if e := Check(c); e != api.OK {
		t.Errorf("Check of %+v: %d", c, e)
	}
	if p, e := Payload(c); e != api.OK || !bytes.Equal(p, payloadOf(c)) {
		t.Errorf("Payload of %+v: %v, %d", c, p, e)
	}
	for _, seq := range []int{0, 1, 0x51525354, 1<<32 - 1} {
		b, e := Bytes(seq, c)
		if e != api.OK || !bytes.Equal(b, laidOf(uint32(seq), c)) {
			t.Errorf("Bytes of %d and %+v: %v, %d", seq, c, b, e)
		}
		holdTaken(t, b, c, seq, len(b))
	}
}

// holdWrong holds Check, Payload and Bytes against a refusal of c, and nothing beside it.
func holdWrong(t *testing.T, seq int, c api.Command) {
	t.Helper()
	if e := Check(c); e != api.ErrArg {
		t.Errorf("Check of %+v: %d, want %d", c, e, api.ErrArg)
	}
	if p, e := Payload(c); len(p) != 0 || e != api.ErrArg {
		t.Errorf("Payload of %+v: %v, %d, want %d alone", c, p, e, api.ErrArg)
	}
	if b, e := Bytes(seq, c); len(b) != 0 || e != api.ErrArg {
		t.Errorf("Bytes of %d and %+v: %v, %d, want %d alone", seq, c, b, e, api.ErrArg)
	}
}

// holdTaken holds Parse of b against a command, its sequence number, its frame's length.
func holdTaken(t *testing.T, b []byte, c api.Command, seq, size int) {
	t.Helper()
	if got, s, n, e := Parse(b); !same(got, c) || s != seq || n != size || e != api.OK {
		t.Errorf("Parse of %v: %+v, %d, %d, %d, want %+v, %d, %d", b, got, s, n, e, c, seq, size)
	}
}

// holdRefused holds Parse against an error, and nothing beside it.
func holdRefused(t *testing.T, name string, b []byte, want api.Errno) {
	t.Helper()
	if c, seq, size, e := Parse(b); !same(c, api.Command{}) || seq != 0 || size != 0 || e != want {
		t.Errorf("%s: %+v, %d, %d, %d, want %d alone", name, c, seq, size, e, want)
	}
}

// P9.1: the chapter's example.
func TestResizeFrame(t *testing.T) {
	b, e := Bytes(0, api.Command{Kind: api.Resize, Size: 9})
	if len(b) != 24 || e != api.OK {
		t.Error(b, e)
	}
	holdCheck(t, api.Command{Kind: api.Resize, Size: 9}, true)
}

// P9.1: Check, right commands of each kind; nil and no bytes are the same where there is no data.
func TestCheckOfRightCommands(t *testing.T) {
	for _, c := range samples() {
		holdCheck(t, c, true)
		if c.Kind != 2 {
			c.Data = []byte{}
			holdCheck(t, c, true)
		}
	}
	holdCheck(t, api.Command{}, false)
}

// P9.1: Check, each kind that there is, and others, with the fields of each.
func TestCheckOfKinds(t *testing.T) {
	kinds := append(edges(), 4, 5, 6, 7, 9)
	for _, c := range samples() {
		own := c.Kind
		for _, kind := range kinds {
			c.Kind = kind
			if kind == own {
				continue
			}
			// What one kind has, another may have too.
			holdCheck(t, c, right(c))
			if kind < 1 || kind > 6 {
				holdWrong(t, 0, c)
			}
		}
	}
	for _, kind := range kinds {
		holdCheck(t, api.Command{Kind: kind}, kind == 5 || kind == 6)
	}
	if api.Begin != 1 || api.Write != 2 || api.Zero != 3 || api.Clone != 4 || api.Resize != 5 || api.End != 6 {
		t.Error("the kinds are others")
	}
}

// P9.1: Check, each field that a kind has not, else right.
func TestCheckOfFieldsThatAreNot(t *testing.T) {
	for _, base := range samples() {
		for i, has := range owned(base.Kind) {
			if has {
				continue
			}
			for _, n := range edges() {
				c := base
				*fields(&c)[i] = n
				holdCheck(t, c, n == 0)
			}
		}
		if base.Kind == 2 {
			continue
		}
		for _, length := range []int{1, 8, 63, 64, 128, 512} {
			c := base
			c.Data = make([]byte, length)
			holdCheck(t, c, false)
		}
	}
}

// P9.1: Check, two fields that a kind has not, which would be nothing together.
func TestCheckOfFieldsThatEndEachOther(t *testing.T) {
	for _, base := range samples() {
		for i, has := range owned(base.Kind) {
			for j, other := range owned(base.Kind) {
				if has || other || i == j {
					continue
				}
				c := base
				*fields(&c)[i], *fields(&c)[j] = 1, -1
				holdCheck(t, c, false)
				*fields(&c)[i], *fields(&c)[j] = 1, 1
				holdCheck(t, c, false)
				*fields(&c)[i], *fields(&c)[j] = 1, 2
				holdCheck(t, c, false)
			}
		}
	}
}

// P9.1: Check, Id and Parent of Begin at their edges, each beside the other one's.
func TestCheckOfBeginIds(t *testing.T) {
	some := []int{math.MinInt, -1 << 62, -2, -1, 0, 1, 2, 255, 1 << 32, 1<<32 + 1, maxId - 1, maxId, maxId + 1, math.MaxInt}
	isId := func(n int) bool { return n > 0 && n <= 1<<62-1 }
	for _, id := range some {
		for _, parent := range some {
			want := isId(id) && (parent == 0 || isId(parent)) && id != parent
			holdCheck(t, api.Command{Kind: 1, Id: id, Parent: parent}, want)
			holdCheck(t, api.Command{Kind: 1, Id: id, Parent: parent, Size: 512, Count: 65535}, want)
		}
	}
	for _, id := range []int{2, 3, 255, 256, 1 << 40, maxId - 1} {
		holdCheck(t, api.Command{Kind: 1, Id: id, Parent: id}, false)
		holdCheck(t, api.Command{Kind: 1, Id: id, Parent: id - 1}, true)
		holdCheck(t, api.Command{Kind: 1, Id: id, Parent: id + 1}, true)
	}
}

// P9.1: Check, Size and Count of Begin, Size of Resize at their edges.
func TestCheckOfSizes(t *testing.T) {
	for _, n := range edges() {
		holdCheck(t, api.Command{Kind: 1, Id: 1, Size: n}, n >= 0 && n <= 512)
		holdCheck(t, api.Command{Kind: 1, Id: 1, Count: n}, n >= 0 && n <= 65535)
		holdCheck(t, api.Command{Kind: 1, Id: 2, Parent: 1, Size: n, Count: n}, n >= 0 && n <= 512)
		holdCheck(t, api.Command{Kind: 5, Size: n}, n >= 0 && n <= 512)
	}
}

// P9.1: Check, Data of Write: its lengths.
func TestCheckOfWriteData(t *testing.T) {
	holdCheck(t, api.Command{Kind: 2}, false)
	holdCheck(t, api.Command{Kind: 2, Data: []byte{}}, false)
	holdCheck(t, api.Command{Kind: 2, From: 512}, false)
	for length := range 1100 {
		holdCheck(t, api.Command{Kind: 2, Data: filled(length)}, length > 0 && length <= 512 && length%64 == 0)
	}
	for _, length := range []int{1 << 12, 1 << 16, 1<<16 + 64, 64 * 512, 64 * 513} {
		holdCheck(t, api.Command{Kind: 2, Data: make([]byte, length)}, false)
	}
}

// P9.1: Check, From of Write, up to where its data ends at the last sector, and beyond.
func TestCheckOfWriteFrom(t *testing.T) {
	for sectors := 1; sectors <= 9; sectors++ {
		for _, from := range append(edges(), 512-sectors-1, 512-sectors, 512-sectors+1, 504, 505) {
			holdCheck(t, api.Command{Kind: 2, From: from, Data: filled(64 * sectors)}, sectors <= 8 && from >= 0 && from <= 512-sectors)
		}
	}
}

// P9.1: Check, From and Count of Zero, those among them that together pass the greatest int.
func TestCheckOfZero(t *testing.T) {
	for _, from := range edges() {
		for _, count := range edges() {
			c := api.Command{Kind: 3, From: from, Count: count}
			want := from >= 0 && from <= 511 && count >= 1 && count <= 512 && from+count <= 512
			holdCheck(t, c, want)
		}
	}
	for from := range 513 {
		holdCheck(t, api.Command{Kind: 3, From: from, Count: 0}, false)
		holdCheck(t, api.Command{Kind: 3, From: from, Count: 512 - from}, from < 512)
		holdCheck(t, api.Command{Kind: 3, From: from, Count: 513 - from}, false)
		holdCheck(t, api.Command{Kind: 3, From: from, Count: math.MaxInt}, false)
		holdCheck(t, api.Command{Kind: 3, From: from, Count: math.MaxInt - from}, false)
	}
	for from := 1; from <= 512; from++ {
		holdCheck(t, api.Command{Kind: 3, From: from, Count: math.MaxInt - from + 1}, false)
	}
}

// P9.1: Check, From, Count and Source of Clone, those among them that together pass the greatest int.
func TestCheckOfClone(t *testing.T) {
	some := []int{math.MinInt, -512, -1, 0, 1, 2, 255, 510, 511, 512, 513, 1 << 32, math.MaxInt - 511, math.MaxInt - 1, math.MaxInt}
	for _, from := range some {
		for _, count := range some {
			for _, source := range some {
				fits := func(n int) bool { return n >= 0 && n <= 512-count }
				want := count >= 1 && count <= 512 && fits(from) && fits(source)
				holdCheck(t, api.Command{Kind: 4, From: from, Count: count, Source: source}, want)
			}
		}
	}
	for at := range 513 {
		holdCheck(t, api.Command{Kind: 4, From: at, Count: 1}, at < 512)
		holdCheck(t, api.Command{Kind: 4, Source: at, Count: 1}, at < 512)
		holdCheck(t, api.Command{Kind: 4, From: at, Source: 511 - at, Count: 1}, at < 512)
		holdCheck(t, api.Command{Kind: 4, Source: at, Count: 512 - at}, at < 512)
		holdCheck(t, api.Command{Kind: 4, Source: at, Count: 513 - at}, false)
	}
}

// P9.1: Check, Count and Digest of End at their edges.
func TestCheckOfEnd(t *testing.T) {
	for _, count := range edges() {
		for _, digest := range edges() {
			want := count >= 0 && count < 65536 && digest >= 0 && digest < 1<<32
			holdCheck(t, api.Command{Kind: 6, Count: count, Digest: digest}, want)
		}
	}
}

// P9.1: Check, two numbers at their edges at once: none hides another.
func TestCheckOfTwoNumbers(t *testing.T) {
	for _, base := range samples() {
		for i := range 7 {
			for j := range i {
				for _, one := range edges() {
					for _, two := range edges() {
						c := base
						*fields(&c)[i], *fields(&c)[j] = one, two
						want := api.ErrArg
						if right(c) {
							want = api.OK
						}
						if e := Check(c); e != want {
							t.Fatalf("Check of %+v: %d, want %d", c, e, want)
						}
					}
				}
			}
		}
	}
}

// P9.1: Payload, how many bytes each kind has, and where each number lies.
func TestPayloadLaysEachNumber(t *testing.T) {
	data := filled(128)
	for _, x := range []struct {
		c    api.Command
		want []byte
	}{
		{api.Command{Kind: api.Begin, Id: 0x1415161718191A1B, Parent: 0x2425262728292A2B, Size: 0x0106, Count: 0x3435}, []byte{
			0x1B, 0x1A, 0x19, 0x18, 0x17, 0x16, 0x15, 0x14,
			0x2B, 0x2A, 0x29, 0x28, 0x27, 0x26, 0x25, 0x24,
			0x06, 0x01, 0, 0,
			0x35, 0x34, 0, 0,
		}},
		{api.Command{Kind: api.Write, From: 0x0107, Data: data}, append([]byte{0x07, 0x01, 0, 0, 2, 0, 0, 0}, data...)},
		{api.Command{Kind: api.Zero, From: 0x0108, Count: 9}, []byte{0x08, 0x01, 0, 0, 9, 0, 0, 0}},
		{api.Command{Kind: api.Clone, From: 0x0108, Count: 9, Source: 0x010A}, []byte{0x08, 0x01, 0, 0, 9, 0, 0, 0, 0x0A, 0x01, 0, 0}},
		{api.Command{Kind: api.Resize, Size: 0x01FB}, []byte{0xFB, 0x01, 0, 0}},
		{api.Command{Kind: api.End, Count: 0x3435, Digest: 0xF4454647}, []byte{0x35, 0x34, 0, 0, 0x47, 0x46, 0x45, 0xF4}},
	} {
		p, e := Payload(x.c)
		if e != api.OK || !bytes.Equal(p, x.want) {
			t.Errorf("Payload of %+v: %v, %d, want %v", x.c, p, e, x.want)
		}
	}
	for _, c := range samples() {
		want := [7]int{0, 24, 8 + len(c.Data), 8, 12, 4, 8}[c.Kind]
		if p, e := Payload(c); len(p) != want || e != api.OK {
			t.Errorf("Payload of %+v: %d bytes, %d, want %d", c, len(p), e, want)
		}
	}
}

// P9.1: Bytes, where the name, the sequence number, the kind, the length, the payload and the sum lie.
func TestBytesLaysEachPart(t *testing.T) {
	for _, c := range samples() {
		p := payloadOf(c)
		want := []byte{
			'F', 'R', 'A', 'M',
			0x54, 0x53, 0x52, 0x51,
			byte(c.Kind), 0, 0, 0,
			byte(len(p)), byte(len(p) >> 8), 0, 0,
		}
		want = append(want, p...)
		sum := crc32.Checksum(want, table)
		want = append(want, byte(sum), byte(sum>>8), byte(sum>>16), byte(sum>>24))
		b, e := Bytes(0x51525354, c)
		if e != api.OK || len(b) != 20+len(p) || !bytes.Equal(b, want) {
			t.Errorf("Bytes of %+v: %v, %d, want %v", c, b, e, want)
		}
	}
}

// P9.1: Bytes, seq at its edges; of two errors both are the same.
func TestBytesOfSequenceNumbers(t *testing.T) {
	for _, c := range samples() {
		for _, seq := range edges() {
			b, e := Bytes(seq, c)
			if seq < 0 || seq > 1<<32-1 {
				if len(b) != 0 || e != api.ErrArg {
					t.Errorf("Bytes of %d and %+v: %v, %d", seq, c, b, e)
				}
				continue
			}
			if e != api.OK || !bytes.Equal(b, laidOf(uint32(seq), c)) {
				t.Errorf("Bytes of %d and %+v: %v, %d", seq, c, b, e)
			}
			holdTaken(t, b, c, seq, len(b))
		}
	}
	for _, seq := range edges() {
		holdWrong(t, seq, api.Command{})
		holdWrong(t, seq, api.Command{Kind: 5, Size: 513})
		holdWrong(t, seq, api.Command{Kind: 2, Data: filled(63)})
	}
}

// P9.1: Parse, the first bytes of right frames, each length of them.
func TestParseOfShortFrames(t *testing.T) {
	holdRefused(t, "nil", nil, api.ErrOpen)
	holdRefused(t, "no bytes", []byte{}, api.ErrOpen)
	for _, c := range samples() {
		b := laidOf(1<<32-1, c)
		for length := range b {
			holdRefused(t, "first bytes", b[:length], api.ErrOpen)
		}
		holdTaken(t, b, c, 1<<32-1, len(b))
	}
}

// P9.1: Parse, each byte of the name changed to each other one, as far as b goes: told ahead of all else.
func TestParseOfOtherNames(t *testing.T) {
	b := laidOf(9, api.Command{Kind: 5, Size: 3})
	for at := range 4 {
		for c := range 256 {
			if byte(c) == b[at] {
				continue
			}
			other := changed(b, at, byte(c))
			for length := range len(b) + 1 {
				want := api.ErrFrame
				if length <= at {
					want = api.ErrOpen
				}
				holdRefused(t, "a name", other[:length], want)
			}
			holdRefused(t, "a name with its sum", sealed(other[:20]), api.ErrFrame)
			holdRefused(t, "a name and bytes behind", append(other, b...), api.ErrFrame)
		}
	}
	for _, name := range []string{"fram", "MARF", "SNAP", "NODE", "\x00", "R", "RAM", "FFRA", "FRA\x00", "FR\x00", "F\x00", "FFRAM"} {
		holdRefused(t, name, []byte(name), api.ErrFrame)
		holdRefused(t, name, append([]byte(name), b...), api.ErrFrame)
	}
	holdRefused(t, "bytes of zeros", make([]byte, 64), api.ErrFrame)
}

// P9.1: Parse, a payload's length at its edges, in b of each length about the frame's.
func TestParseOfLengths(t *testing.T) {
	for _, length := range []uint32{0, 1, 3, 4, 5, 8, 255, 256, 519, 520, 521, 522, 528, 1 << 10, 65535, 65536, 1<<16 + 4, 1<<24 + 4, 1<<31 - 1, 1 << 31, 1<<31 + 4, 1<<32 - 20, 1<<32 - 16, 1<<32 - 4, 1<<32 - 1} {
		for _, kind := range []uint32{0, 2, 5, 7} {
			b := append(headed(3, kind, length), make([]byte, 600)...)
			for _, size := range []int{16, 17, 19, 20, 24, 539, 540, 541, 616} {
				want := api.ErrSum
				if size < 20+int(length) {
					want = api.ErrOpen
				}
				if length > 520 {
					want = api.ErrFrame
				}
				holdRefused(t, "a length", b[:size], want)
			}
			// Fifteen bytes do not tell the length.
			for size := range 16 {
				holdRefused(t, "a length not told", b[:size], api.ErrOpen)
			}
		}
	}
}

// P9.1: Parse, a length that is too great, of a frame whose sum fits.
func TestParseOfTooLongPayloads(t *testing.T) {
	long := laid(1, 2, append(four(0, 9), make([]byte, 576)...))
	holdRefused(t, "nine sectors", long, api.ErrFrame)
	for size := 16; size < len(long); size++ {
		holdRefused(t, "nine sectors, cut off", long[:size], api.ErrFrame)
	}
	holdRefused(t, "one byte more", laid(1, 2, append(four(0, 8), make([]byte, 513)...)), api.ErrFrame)
	most := append(four(0, 8), make([]byte, 512)...)
	holdTaken(t, laid(1, 2, most), api.Command{Kind: 2, Data: make([]byte, 512)}, 1, 540)
	// The sum of such a one is not looked at.
	holdRefused(t, "one byte more, another sum", changed(laid(1, 2, append(four(0, 8), make([]byte, 513)...)), 540, 1), api.ErrFrame)
}

// P9.1: Parse, any bit changed behind the head: the sum does not fit, and that is told ahead of what the bit means.
func TestParseOfOtherSums(t *testing.T) {
	for _, c := range samples() {
		b := laidOf(0x51525354, c)
		for at := 4; at < len(b); at++ {
			if at >= 12 && at < 16 {
				continue
			}
			for bit := range 8 {
				holdRefused(t, "a bit", changed(b, at, b[at]^1<<bit), api.ErrSum)
			}
		}
		end := len(b) - 4
		holdRefused(t, "sum 0", append(slices.Clone(b[:end]), 0, 0, 0, 0), api.ErrSum)
		turned := slices.Clone(b)
		slices.Reverse(turned[end:])
		holdRefused(t, "the greatest byte first", turned, api.ErrSum)
		part := append(slices.Clone(b[:end]), four(crc32.Checksum(b[16:end], table))...)
		holdRefused(t, "the sum of the payload alone", part, api.ErrSum)
		part = append(slices.Clone(b[:end]), four(crc32.Checksum(b[4:end], table))...)
		holdRefused(t, "the sum without the name", part, api.ErrSum)
	}
}

// P9.1: Parse, the length changed bit by bit: another frame, which is not all there, or whose sum does not fit.
func TestParseOfOtherLengthBits(t *testing.T) {
	for _, c := range samples() {
		b := laidOf(0x51525354, c)
		for at := 12; at < 16; at++ {
			for bit := range 8 {
				other := changed(b, at, b[at]^1<<bit)
				length := int(binary.LittleEndian.Uint32(other[12:]))
				switch {
				case length > 520:
					holdRefused(t, "a length too great", other, api.ErrFrame)
				case length+20 > len(b):
					holdRefused(t, "a greater length", other, api.ErrOpen)
				default:
					holdRefused(t, "a smaller length", other, api.ErrSum)
				}
			}
		}
	}
}

// P9.1: Parse, kinds that there are not, with payloads of each kind that there is, and a sum that fits.
func TestParseOfOtherKinds(t *testing.T) {
	for _, c := range samples() {
		for _, kind := range []uint32{0, 7, 8, 255, 256, 256 + 5, 1<<16 + 2, 1<<31 + uint32(c.Kind), 1<<32 - 1} {
			b := laid(4, kind, payloadOf(c))
			holdRefused(t, "a kind", b, api.ErrFrame)
			holdRefused(t, "a kind and the sum", changed(b, len(b)-1, ^b[len(b)-1]), api.ErrSum)
			holdRefused(t, "a kind, cut off", b[:len(b)-1], api.ErrOpen)
		}
	}
	holdRefused(t, "kind 0 of no payload", laid(0, 0, nil), api.ErrFrame)
	holdRefused(t, "kind 7 of no payload", laid(0, 7, nil), api.ErrFrame)
}

// P9.1: Parse, payloads of lengths that their kinds have not, with a sum that fits.
func TestParseOfOtherPayloadLengths(t *testing.T) {
	for _, c := range samples() {
		full := append(payloadOf(c), make([]byte, 521)...)
		own := len(payloadOf(c))
		for length := range 521 {
			if length == own {
				continue
			}
			b := laid(4, uint32(c.Kind), full[:length])
			holdRefused(t, "a payload's length", b, api.ErrFrame)
		}
		// Zeros are right numbers in most places, and may not be taken for what is not there.
		for length := range own {
			holdRefused(t, "a payload of zeros", laid(4, uint32(c.Kind), make([]byte, length)), api.ErrFrame)
		}
	}
}

// P9.1: Parse, a Write whose number of sectors is not its data's, with a sum that fits.
func TestParseOfOtherSectorCounts(t *testing.T) {
	for _, sectors := range []uint32{0, 1, 2, 3, 7, 8, 9, 64, 128, 256, 1 << 16, 1<<26 + 1, 1 << 31, 1<<31 + 1, 1<<32 - 1} {
		for length := 0; length <= 512; length += 16 {
			data := filled(length)
			b := laid(6, 2, append(four(5, sectors), data...))
			if length == int(sectors)*64 && sectors > 0 {
				holdTaken(t, b, api.Command{Kind: 2, From: 5, Data: data}, 6, 28+length)
				continue
			}
			holdRefused(t, "a number of sectors", b, api.ErrFrame)
		}
	}
}

// holdPayload holds Parse of a frame of this payload, with a sum that fits, against c, or, unless that is right, a refusal.
func holdPayload(t *testing.T, c api.Command, payload []byte, right bool) {
	t.Helper()
	b := laid(8, uint32(c.Kind), payload)
	if right {
		holdTaken(t, b, c, 8, len(b))
		return
	}
	holdRefused(t, "a number", b, api.ErrFrame)
	holdRefused(t, "a number and the sum", changed(b, len(b)-2, ^b[len(b)-2]), api.ErrSum)
}

// P9.1: Parse, each number of four bytes at its edges, with a sum that fits.
func TestParseOfOtherNumbers(t *testing.T) {
	some := []uint32{0, 1, 2, 255, 256, 504, 505, 510, 511, 512, 513, 65535, 65536, 1<<16 + 1, 1<<24 + 1, 1 << 31, 1<<31 + 1, 1<<32 - 2, 1<<32 - 1}
	for _, one := range some {
		n := int(one)
		holdPayload(t, api.Command{Kind: 5, Size: n}, four(one), n <= 512)
		for sectors := 1; sectors <= 8; sectors++ {
			data := filled(64 * sectors)
			holdPayload(t, api.Command{Kind: 2, From: n, Data: data}, append(four(one, uint32(sectors)), data...), n+sectors <= 512)
		}
		for _, two := range some {
			m := int(two)
			holdPayload(t, api.Command{Kind: 1, Id: 2, Parent: 1, Size: n, Count: m}, append(eight(2, 1), four(one, two)...), n <= 512 && m < 65536)
			holdPayload(t, api.Command{Kind: 3, From: n, Count: m}, four(one, two), m > 0 && n+m <= 512)
			holdPayload(t, api.Command{Kind: 6, Count: n, Digest: m}, four(one, two), n < 65536)
			for _, three := range some {
				k := int(three)
				holdPayload(t, api.Command{Kind: 4, From: n, Count: m, Source: k}, four(one, two, three), m > 0 && n+m <= 512 && k+m <= 512)
			}
		}
	}
}

// P9.1: Parse, the numbers of eight bytes at their edges, those above MaxId among them, with a sum that fits.
func TestParseOfOtherIds(t *testing.T) {
	some := []uint64{
		0, 1, 2, 255, 1 << 32, maxId - 1, maxId, maxId + 1, maxId + 2, 1<<62 + 1<<61,
		1<<63 - 1, 1 << 63, 1<<63 + 1, 1<<63 + 1<<62 + 2, math.MaxUint64 - 1, math.MaxUint64,
	}
	for _, id := range some {
		for _, parent := range some {
			c := api.Command{Kind: 1, Id: int(id), Parent: int(parent), Size: 3, Count: 4}
			right := id != 0 && id <= maxId && parent <= maxId && id != parent
			holdPayload(t, c, append(eight(id, parent), four(3, 4)...), right)
		}
	}
}

// P9.1: Parse, which error comes first where more than one would do.
func TestParseTellsTheFirstError(t *testing.T) {
	wrong := laid(2, 7, four(513))
	holdRefused(t, "a kind", wrong, api.ErrFrame)
	holdRefused(t, "a kind and the sum", changed(wrong, 20, ^wrong[20]), api.ErrSum)
	holdRefused(t, "a kind, cut off", wrong[:23], api.ErrOpen)
	holdRefused(t, "a kind, and a head alone", wrong[:16], api.ErrOpen)
	holdRefused(t, "a name, cut off", changed(wrong, 3, 'm')[:5], api.ErrFrame)
	holdRefused(t, "a length, and a head alone", headed(2, 5, 521), api.ErrFrame)
	holdRefused(t, "a length not told", headed(2, 5, 521)[:15], api.ErrOpen)
	holdRefused(t, "a length and a name", changed(headed(2, 5, 521), 0, 'G'), api.ErrFrame)
	holdRefused(t, "a head, and a kind", headed(2, 0, 520), api.ErrOpen)
}

// P9.1: Parse, the sequence number, each of its bits.
func TestParseOfSequenceNumbers(t *testing.T) {
	c := api.Command{Kind: 6, Count: 2, Digest: 3}
	for bit := range 32 {
		holdTaken(t, laidOf(1<<bit, c), c, 1<<bit, 28)
		holdTaken(t, laidOf(^uint32(1<<bit), c), c, 1<<32-1-1<<bit, 28)
	}
}

// P9.1, P9.2, T4: whatever a byte is changed to, with a sum that fits, a frame is taken just if it is the one that Bytes writes of what Parse answers.
func TestParseTakesWhatBytesWritesAlone(t *testing.T) {
	for _, base := range samples() {
		b := laidOf(0x51525354, base)
		taken := 0
		for at := 4; at < len(b)-4; at++ {
			for v := range 256 {
				other := sealed(changed(b, at, byte(v))[:len(b)-4])
				c, seq, size, e := Parse(other)
				if e != api.OK {
					holdRefused(t, "a byte", other, e)
					continue
				}
				taken++
				if out, e := Bytes(seq, c); e != api.OK || !bytes.Equal(out, other[:size]) || size != len(b) {
					t.Errorf("byte %d as %d: parses as %+v, which is written as %v, %d", at, v, c, out, e)
				}
			}
		}
		// Each byte of the sequence number and of the data may be any, each other one what it is.
		if least := 4*256 + len(base.Data)*256 + 8; taken < least {
			t.Errorf("of %+v %d frames are taken, want %d or more", base, taken, least)
		}
	}
}

// P9.2: what is written is read, whatever stands behind.
func TestWhatIsWrittenIsReadWhateverStandsBehind(t *testing.T) {
	for i, c := range samples() {
		b, e := Bytes(i, c)
		if e != api.OK {
			t.Fatal(c, e)
		}
		next := laidOf(uint32(i+1), samples()[(i+1)%len(samples())])
		for _, behind := range [][]byte{nil, {0}, {255}, []byte("F"), []byte("FRAM"), []byte("x"), make([]byte, 4), make([]byte, 1000), bytes.Repeat([]byte{255}, 600), b, next, next[:len(next)-1], b[len(b)-4:]} {
			holdTaken(t, slices.Concat(b, behind), c, i, len(b))
		}
		for v := range 256 {
			holdTaken(t, append(slices.Clone(b), byte(v)), c, i, len(b))
		}
	}
}

// P9.2: frames one behind the other are read one by one.
func TestFramesAreReadOneByOne(t *testing.T) {
	var all []byte
	for i, c := range samples() {
		b, e := Bytes(i, c)
		if e != api.OK {
			t.Fatal(c, e)
		}
		all = append(all, b...)
	}
	for i, want := range samples() {
		c, seq, size, e := Parse(all)
		if !same(c, want) || seq != i || size != len(laidOf(0, want)) || e != api.OK {
			t.Fatalf("frame %d: %+v, %d, %d, %d", i, c, seq, size, e)
		}
		all = all[size:]
	}
	holdRefused(t, "no frame more", all, api.ErrOpen)
}

// P9.2: what is written is read, for each size, each sector, each count.
func TestEachNumberIsWrittenAndRead(t *testing.T) {
	for n := range 514 {
		holdCheck(t, api.Command{Kind: 5, Size: n}, n <= 512)
		holdCheck(t, api.Command{Kind: 1, Id: n + 1, Size: n}, n <= 512)
		holdCheck(t, api.Command{Kind: 2, From: n, Data: filled(64)}, n <= 511)
		holdCheck(t, api.Command{Kind: 2, From: n, Data: filled(512)}, n <= 504)
		holdCheck(t, api.Command{Kind: 3, From: n, Count: 1}, n <= 511)
		holdCheck(t, api.Command{Kind: 3, Count: n}, n >= 1 && n <= 512)
		holdCheck(t, api.Command{Kind: 4, Count: n}, n >= 1 && n <= 512)
	}
	for n := range 65537 {
		c := api.Command{Kind: 6, Count: n, Digest: n << 16 % (1 << 32)}
		b, e := Bytes(n, c)
		if n == 65536 {
			holdWrong(t, n, c)
			continue
		}
		if got, seq, size, other := Parse(b); !same(got, c) || seq != n || size != 28 || e != api.OK || other != api.OK {
			t.Fatalf("%d: %+v, %d, %d, %d, %d", n, got, seq, size, e, other)
		}
	}
}

// T4: any bytes are read, or refused with one of three errors; what is read is what Bytes writes.
func TestAnyBytes(t *testing.T) {
	// A plain row of numbers, the same at each run.
	state := uint32(1)
	next := func() int {
		state = state*1664525 + 1013904223
		return int(state >> 16)
	}
	all := samples()
	read := 0
	for range 60000 {
		b := laidOf(uint32(next()), all[next()%len(all)])
		for range next() % 3 {
			b[next()%len(b)] ^= byte(1 << (next() % 8))
		}
		if next()%2 == 0 {
			copy(b, sealed(b[:len(b)-4]))
		}
		if next()%4 == 0 {
			b = b[:next()%len(b)]
		}
		c, seq, size, e := Parse(b)
		switch e {
		case api.OK:
			read++
			if out, e := Bytes(seq, c); e != api.OK || !bytes.Equal(out, b[:size]) {
				t.Fatalf("%v is read as %+v, %d, %d", b, c, seq, size)
			}
		case api.ErrFrame, api.ErrOpen, api.ErrSum:
			holdRefused(t, "bytes", b, e)
		default:
			t.Fatalf("%v: %d", b, e)
		}
	}
	if read < 1000 || read > 59000 {
		t.Error("read:", read)
	}
}

// R2, R6: what is handed in stays, its spare room too, and nothing behind its length is looked at.
func TestNothingHandedInIsChanged(t *testing.T) {
	room := bytes.Repeat([]byte{9}, 1024)
	copy(room, filled(128))
	kept := slices.Clone(room)
	c := api.Command{Kind: 2, From: 3, Data: room[:128]}
	holdCheck(t, c, true)
	holdWrong(t, 0, api.Command{Kind: 2, Data: room[:127]})
	holdWrong(t, 0, api.Command{Kind: 5, Data: room[:1]})
	holdCheck(t, api.Command{Kind: 5, Data: room[:0]}, true)
	if !bytes.Equal(room, kept) || c.From != 3 || len(c.Data) != 128 {
		t.Error("a command that was handed in is changed")
	}
	stream := slices.Concat(laidOf(1, c), laidOf(2, c))
	kept = slices.Clone(stream)
	end := len(stream) / 2
	holdTaken(t, stream[:end], c, 1, end)
	holdTaken(t, stream, c, 1, end)
	holdRefused(t, "a frame that ends ahead", stream[:end-1], api.ErrOpen)
	holdRefused(t, "a head that ends ahead", stream[:15], api.ErrOpen)
	holdRefused(t, "no bytes, a frame behind", stream[:0], api.ErrOpen)
	if !bytes.Equal(stream, kept) {
		t.Error("what was handed in is changed")
	}
}

// spoil puts all of b's memory to v, its spare room too.
func spoil(b []byte, v byte) {
	b = b[:cap(b)]
	for i := range b {
		b[i] = v
	}
}

// R2: what Parse answers shares no memory with what it was given, nor with another answer.
func TestParseAnswersNewMemory(t *testing.T) {
	for sectors := 1; sectors <= 8; sectors++ {
		want := api.Command{Kind: 2, Data: filled(64 * sectors)}
		b := laidOf(1, want)
		kept := slices.Clone(b)
		first, _, _, _ := Parse(b)
		second, _, _, _ := Parse(b)
		spoil(first.Data, 99)
		if !bytes.Equal(b, kept) || !same(second, want) {
			t.Error("an answer shares memory with the frame, or with another")
		}
		clear(b)
		if !same(second, want) {
			t.Error("the answer hangs on the frame", second)
		}
	}
}

// R2: the answer's spare room is none of what stands behind the data in b.
func TestParseAnswersNoRoomOfB(t *testing.T) {
	for _, c := range samples() {
		b := append(laidOf(1, c), bytes.Repeat([]byte{5}, 64)...)
		kept := slices.Clone(b)
		got, _, _, e := Parse(b)
		spoil(got.Data, 77)
		if e != api.OK || !bytes.Equal(b, kept) {
			t.Errorf("the answer of %+v has room of what was handed in", c)
		}
	}
}

// R2, R3: each answer is new memory, spare room too, and the next one is the same.
func TestPayloadAndBytesAnswerNewMemory(t *testing.T) {
	for _, c := range samples() {
		data := slices.Clone(c.Data)
		p, _ := Payload(c)
		b, _ := Bytes(1, c)
		spoil(p, 99)
		spoil(b, 98)
		if !bytes.Equal(c.Data, data) {
			t.Error("an answer shares memory with the data")
		}
		if p, e := Payload(c); e != api.OK || !bytes.Equal(p, payloadOf(c)) {
			t.Error("a later payload is another", p, e)
		}
		if b, e := Bytes(1, c); e != api.OK || !bytes.Equal(b, laidOf(1, c)) {
			t.Error("a later frame is another", b, e)
		}
		if len(p) > 0 && p[0] != 99 || b[0] != 98 {
			t.Error("two answers share memory")
		}
	}
}

// R3: a refused call changes nothing of what later ones answer.
func TestRefusedCallsLeaveNothing(t *testing.T) {
	for _, c := range samples() {
		b := laidOf(1, c)
		for range 2 {
			holdCheck(t, c, true)
			holdWrong(t, 1, api.Command{Kind: c.Kind, Source: -1})
			holdRefused(t, "the sum", changed(b, len(b)-1, ^b[len(b)-1]), api.ErrSum)
			holdRefused(t, "a kind", laid(1, 9, payloadOf(c)), api.ErrFrame)
			holdTaken(t, b, c, 1, len(b))
		}
	}
}
