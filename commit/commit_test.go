package commit

import (
	"bytes"
	"encoding/binary"
	"hash/crc32"
	"maps"
	"math"
	"slices"
	"strconv"
	"testing"

	"woodcut/api"
	"woodcut/build"
	"woodcut/dev"
	"woodcut/open"
	"woodcut/super"
	"woodcut/tree"
)

var table = crc32.MakeTable(crc32.Castagnoli)

// sealed answers b with zeros and its sum behind it, a block in all.
func sealed(b []byte) []byte {
	b = append(b, make([]byte, 60-len(b))...)
	return binary.LittleEndian.AppendUint32(b, crc32.Checksum(b, table))
}

// superBlock answers the block of a superblock of these numbers, by other means than the program's.
func superBlock(gen, blocks, root, size, first int) []byte {
	b := binary.LittleEndian.AppendUint64([]byte("WCUT"), uint64(gen))
	for _, n := range []int{blocks, root, size, first} {
		b = binary.LittleEndian.AppendUint32(b, uint32(n))
	}
	return sealed(b)
}

// recordBlock answers the block of a record, by other means than the program's.
func recordBlock(r api.Record) []byte {
	b := binary.LittleEndian.AppendUint32([]byte("SNAP"), uint32(r.Next))
	b = binary.LittleEndian.AppendUint64(b, uint64(r.Id))
	b = binary.LittleEndian.AppendUint64(b, uint64(r.Parent))
	for _, n := range []int{r.Root, r.Size, r.Kind, r.Frames, r.Digest} {
		b = binary.LittleEndian.AppendUint32(b, uint32(n))
	}
	return sealed(b)
}

// recordOf answers the record that stands in b, and whether one does, by other means than the program's.
func recordOf(b []byte) (api.Record, bool) {
	word := func(at int) int { return int(binary.LittleEndian.Uint32(b[at:])) }
	long := func(at int) int { return int(binary.LittleEndian.Uint64(b[at:])) }
	r := api.Record{
		Next: word(4), Id: long(8), Parent: long(16), Root: word(24), Size: word(28), Kind: word(32), Frames: word(36), Digest: word(40),
	}
	return r, bytes.Equal(b, recordBlock(r))
}

// device answers one of so many blocks, all zeros.
func device(blocks int) []byte {
	return make([]byte, blocks*64)
}

// set lays b into block at of img.
func set(img []byte, at int, b []byte) {
	copy(img[at*64:(at+1)*64], b)
}

// wr writes a block full of c.
func wr(at int, c byte) api.Io {
	return api.Io{Kind: api.IoWrite, At: at, Data: bytes.Repeat([]byte{c}, 64)}
}

// wrote writes b.
func wrote(at int, b []byte) api.Io {
	return api.Io{Kind: api.IoWrite, At: at, Data: b}
}

func fl() api.Io {
	return api.Io{Kind: api.IoFlush}
}

// span answers the numbers from from on, ahead of to.
func span(from, to int) []int {
	var l []int
	for n := from; n < to; n++ {
		l = append(l, n)
	}
	return l
}

// far are numbers that are no block of any device, some of which would be one if they wrapped.
func far() []int {
	return []int{
		math.MinInt, math.MinInt + 2, -1 << 62, -1 << 32, -1<<32 + 2, -1<<32 + 9, -4096, -9, -2, -1,
		4096, 4097, 1<<16 + 9, 1 << 31, 1<<32 + 2, 1<<32 + 9, 1<<58 + 9, 1 << 62, math.MaxInt - 1, math.MaxInt,
	}
}

// dice answers numbers below n, the same ones in each run.
func dice() func(n int) int {
	x := uint64(88172645463325252)
	return func(n int) int {
		x ^= x << 13
		x ^= x >> 7
		x ^= x << 17
		return int(x >> 33 % uint64(n))
	}
}

func sameSteps(a, b []api.Io) bool {
	return slices.EqualFunc(a, b, func(x, y api.Io) bool {
		return x.Kind == y.Kind && x.At == y.At && bytes.Equal(x.Data, y.Data)
	})
}

// show tells steps in short: of which kind, where, and what the first bytes are.
func show(l []api.Io) string {
	out := ""
	for _, x := range l {
		out += strconv.Itoa(x.Kind) + ": " + strconv.Itoa(x.At) + " <-"
		for at := 0; at+4 <= len(x.Data) && at < 44; at += 4 {
			out += " " + strconv.FormatUint(uint64(binary.LittleEndian.Uint32(x.Data[at:])), 16)
		}
		out += "; "
	}
	return out
}

// state answers one of a device of nine blocks, whose superblock stands in that slot.
func state(slot int) api.State {
	return api.State{Super: api.Super{Gen: 5, Blocks: 9, Root: 4, Size: 8, First: 3}, Slot: slot}
}

// of answers state(1), changed.
func of(change func(s *api.State)) api.State {
	s := state(1)
	change(&s)
	return s
}

// holdSteps holds Steps against the chapter's commit.
func holdSteps(t *testing.T, s api.State, l []api.Io, root, size, first int) {
	t.Helper()
	b := superBlock(s.Super.Gen+1, s.Super.Blocks, root, size, first)
	want := slices.Concat(l, []api.Io{fl(), wrote(1-s.Slot, b), fl()})
	if got, e := Steps(s, l, root, size, first); !sameSteps(got, want) || e != api.OK {
		t.Errorf("Steps(%v, %s, %d, %d, %d): %s, %d, want %s", s, show(l), root, size, first, show(got), e, show(want))
	}
}

func stepsRefused(t *testing.T, s api.State, l []api.Io, root, size, first int, want api.Errno) {
	t.Helper()
	if got, e := Steps(s, l, root, size, first); len(got) != 0 || e != want {
		t.Errorf("Steps(%v, %s, %d, %d, %d): %s, %d, want %d", s, show(l), root, size, first, show(got), e, want)
	}
}

// P15.1: the chapter's example: no writes: flush, superblock, flush.
func TestNoWrites(t *testing.T) {
	for slot := range 2 {
		for _, l := range [][]api.Io{nil, {}} {
			got, e := Steps(state(slot), l, 5, 6, 7)
			want := []api.Io{{Kind: 2}, {Kind: 1, At: 1 - slot, Data: superBlock(6, 9, 5, 6, 7)}, {Kind: 2}}
			if !sameSteps(got, want) || e != api.OK {
				t.Errorf("slot %d: %s, %d, want %s", slot, show(got), e, show(want))
			}
		}
	}
}

// P15.1: one write, to each block; two to one block, in their order; many, to all blocks, from the last one to the first, and more than the bound of a device's steps, which is no matter here.
func TestWrites(t *testing.T) {
	for slot := range 2 {
		s := state(slot)
		for at := 2; at < 9; at++ {
			holdSteps(t, s, []api.Io{wr(at, 7)}, 5, 3, 0)
			holdSteps(t, s, []api.Io{wr(at, 7), wr(10-at, 0), wr(at, 255)}, 0, 3, at)
		}
		holdSteps(t, s, []api.Io{wr(8, 1), wr(2, 2)}, 2, 0, 8)
		holdSteps(t, s, []api.Io{wr(2, 2), wr(8, 1)}, 2, 0, 8)
		holdSteps(t, s, []api.Io{wrote(3, superBlock(9, 9, 0, 0, 0)), wrote(4, span64())}, 0, 0, 0)
		s.Super.Blocks = 4096
		var l []api.Io
		for at := 4095; at >= 2; at-- {
			l = append(l, wr(at, byte(at)))
		}
		holdSteps(t, s, l, 4095, 512, 2)
	}
	holdSteps(t, state(0), slices.Repeat([]api.Io{wr(8, 1)}, api.MaxIo+1), 2, 2, 2)
}

// span64 are bytes that all differ.
func span64() []byte {
	var b []byte
	for n := range 64 {
		b = append(b, byte(n))
	}
	return b
}

// P15.1: what a state has beside its superblock and slot is no matter, a Root that leads to nothing neither.
func TestRecordsOfAState(t *testing.T) {
	for _, l := range [][]api.Record{nil, {{Id: 1}}, {{Next: -1, Id: -1, Kind: 9}}, make([]api.Record, 100)} {
		for slot := range 2 {
			s := state(slot)
			s.Records = l
			holdSteps(t, s, []api.Io{wr(2, 1)}, 8, 9, 7)
		}
	}
}

// P15.1: a Gen: the least, the greatest that has one above it, and the greatest, which has none.
func TestGens(t *testing.T) {
	for slot := range 2 {
		for _, gen := range []int{1, 2, 255, 256, 65535, 1<<32 - 2, 1<<32 - 1, 1 << 32, 1<<40 - 2, 1<<40 - 1} {
			s := state(slot)
			s.Super.Gen = gen
			holdSteps(t, s, nil, 0, 0, 0)
			holdSteps(t, s, []api.Io{wr(3, 3)}, 3, 3, 3)
		}
		for _, gen := range []int{1 << 40, 1<<40 + 1, 1<<62 - 1, 0, -1, -5, math.MinInt, math.MinInt + 1, math.MaxInt - 1, math.MaxInt} {
			s := state(slot)
			s.Super.Gen = gen
			stepsRefused(t, s, nil, 0, 0, 0, api.ErrImage)
			stepsRefused(t, s, []api.Io{wr(3, 3)}, 3, 3, 3, api.ErrImage)
		}
	}
}

// P15.1: a slot is 0 or 1.
func TestSlots(t *testing.T) {
	for _, slot := range append(far(), 2, 3, 4, 8, 9, -1<<32+1, 1<<32, 1<<32+1, 1<<8, 1<<8+1) {
		s := state(slot)
		stepsRefused(t, s, nil, 0, 0, 0, api.ErrImage)
		stepsRefused(t, s, []api.Io{wr(3, 3)}, 3, 3, 3, api.ErrImage)
	}
}

// wrongSupers are state(1) with one number of the superblock that may not be.
func wrongSupers() []api.State {
	l := []api.State{{}, {Slot: 1}}
	for _, n := range append(far(), 0, 1, 2, 3) {
		l = append(l, of(func(s *api.State) { s.Super.Blocks = n }))
	}
	l = slices.DeleteFunc(l, func(s api.State) bool { return s.Super.Blocks == 4096 })
	for _, n := range append(far(), 1, 9, 10) {
		l = append(l, of(func(s *api.State) { s.Super.Root = n }), of(func(s *api.State) { s.Super.First = n }))
	}
	for _, n := range append(far(), 513, 514) {
		l = append(l, of(func(s *api.State) { s.Super.Size = n }))
	}
	return l
}

// P15.1: a state whose superblock is not right, in each way: ErrImage, whatever else is asked.
func TestWrongStates(t *testing.T) {
	for _, s := range wrongSupers() {
		stepsRefused(t, s, nil, 0, 0, 0, api.ErrImage)
		stepsRefused(t, s, []api.Io{wr(2, 2)}, 2, 2, 2, api.ErrImage)
		stepsRefused(t, s, []api.Io{fl()}, 1, -1, 9, api.ErrImage)
	}
	for _, blocks := range []int{5, 6, 4095, 4096} {
		holdSteps(t, of(func(s *api.State) { s.Super.Blocks = blocks }), []api.Io{wr(4, 4)}, 2, 2, 2)
	}
	holdSteps(t, of(func(s *api.State) { s.Super = api.Super{Gen: 1, Blocks: 4} }), []api.Io{wr(3, 4)}, 3, 2, 2)
	for _, n := range []int{0, 2, 8} {
		holdSteps(t, of(func(s *api.State) { s.Super.Root = n }), nil, 2, 2, 2)
		holdSteps(t, of(func(s *api.State) { s.Super.First = n }), nil, 2, 2, 2)
	}
	for _, n := range []int{0, 1, 511, 512} {
		holdSteps(t, of(func(s *api.State) { s.Super.Size = n }), nil, 2, 2, 2)
	}
}

// P15.1: the new superblock's numbers, each at its edges, on devices of several sizes: Blocks are the state's.
func TestNewSuperblocks(t *testing.T) {
	for _, blocks := range []int{4, 5, 9, 255, 256, 257, 4095, 4096} {
		s := api.State{Super: api.Super{Gen: 77, Blocks: blocks}, Slot: blocks % 2}
		for _, at := range []int{0, 2, 3, blocks - 2, blocks - 1} {
			holdSteps(t, s, nil, at, 4, 0)
			holdSteps(t, s, nil, 0, 4, at)
			holdSteps(t, s, []api.Io{wr(2, 2)}, at, 4, at)
		}
		for _, at := range append(far(), 1, blocks, blocks+1) {
			stepsRefused(t, s, nil, at, 4, 0, api.ErrArg)
			stepsRefused(t, s, nil, 0, 4, at, api.ErrArg)
			stepsRefused(t, s, []api.Io{wr(2, 2)}, at, 4, at, api.ErrArg)
		}
		for _, size := range []int{0, 1, 2, 255, 256, 511, 512} {
			holdSteps(t, s, nil, 0, size, 0)
			holdSteps(t, s, nil, 2, size, 3)
		}
		for _, size := range append(far(), 513, 514) {
			stepsRefused(t, s, nil, 0, size, 0, api.ErrArg)
			stepsRefused(t, s, []api.Io{wr(2, 2)}, 2, size, 3, api.ErrArg)
		}
	}
}

// wrongWrites are steps that no commit on a device of that many blocks may write ahead of its superblock.
func wrongWrites(blocks int) []api.Io {
	l := []api.Io{fl(), {Kind: api.IoFlush, At: 2}, {Kind: api.IoFlush, Data: make([]byte, 64)}, {Kind: api.IoFlush, At: 2, Data: make([]byte, 64)}, {}}
	for _, at := range append(far(), 0, 1, blocks, blocks+1) {
		if at != 4096 || blocks <= 4096 {
			l = append(l, wr(at, 3))
		}
	}
	for _, size := range []int{0, 1, 2, 62, 63, 65, 66, 128, 4096} {
		l = append(l, wrote(2, make([]byte, size)), wrote(blocks-1, make([]byte, size)))
	}
	for _, kind := range []int{0, -1, 3, 4, 257, 1<<32 + 1, math.MinInt, math.MinInt + 1, math.MaxInt} {
		l = append(l, api.Io{Kind: kind, At: 2, Data: make([]byte, 64)}, api.Io{Kind: kind})
	}
	return append(l, wrote(2, nil))
}

// P15.1: a step that may not be among the writes, in each way, alone, and at each place among others.
func TestWrongWrites(t *testing.T) {
	for _, blocks := range []int{4, 9, 4095, 4096} {
		s := api.State{Super: api.Super{Gen: 77, Blocks: blocks}, Slot: blocks % 2}
		right := []api.Io{wr(2, 1), wr(blocks-1, 2), wr(3, 4)}
		holdSteps(t, s, right, 2, 3, 3)
		for _, x := range wrongWrites(blocks) {
			stepsRefused(t, s, []api.Io{x}, 2, 3, 3, api.ErrArg)
			for place := range 4 {
				stepsRefused(t, s, slices.Insert(slices.Clone(right), place, x), 2, 3, 3, api.ErrArg)
			}
		}
		for _, at := range []int{2, 3, blocks - 1} {
			holdSteps(t, s, []api.Io{wr(at, 7)}, 0, 0, 0)
		}
	}
}

// P15.1: which error stands where two would do: the state's ahead of all others, in each way.
func TestWhichErrorOfSteps(t *testing.T) {
	wrong := wrongSupers()
	for _, slot := range []int{-1, 2, math.MinInt, math.MaxInt} {
		wrong = append(wrong, state(slot))
	}
	for _, gen := range []int{0, 1 << 40, 1<<40 + 1} {
		wrong = append(wrong, of(func(s *api.State) { s.Super.Gen = gen }))
	}
	for _, s := range wrong {
		for _, x := range wrongWrites(9) {
			stepsRefused(t, s, []api.Io{x}, 0, 0, 0, api.ErrImage)
		}
		stepsRefused(t, s, nil, 1, 0, 0, api.ErrImage)
		stepsRefused(t, s, nil, 0, 513, 0, api.ErrImage)
		stepsRefused(t, s, nil, 0, 0, 1, api.ErrImage)
	}
	for _, x := range wrongWrites(9) {
		stepsRefused(t, state(0), []api.Io{x}, 1, 0, 0, api.ErrArg)
	}
}

// rec answers a record whose numbers hang on its id.
func rec(id int) api.Record {
	return api.Record{Id: id, Root: 2 + id%4000, Size: 500 - id%500}
}

// chainOf answers so many records, one behind the other, from block from on: the first one pending.
func chainOf(count, from int) (l []api.Record, blocks []int) {
	for i := range count {
		r := rec(i + 1)
		r.Next = from + i + 1
		if i > 0 {
			r.Parent = i
		}
		l, blocks = append(l, r), append(blocks, from+i)
	}
	if count > 0 {
		l[0].Kind, l[0].Frames, l[0].Digest = api.Pending, 65535, 1<<32-1
		l[0].Parent = 1<<62 - 1
		l[count-1].Next = 0
	}
	return l, blocks
}

// newFirst is one that stands nowhere yet: its Next says nothing.
func newFirst() api.Record {
	return api.Record{Next: -7, Id: 1 << 40, Parent: 3, Root: 4095, Size: 77}
}

// link is a record of the new chain, and its block.
type link struct {
	at int
	r  api.Record
}

// chain answers the new chain, from the first record on, and how many of free it takes, by other means than the program's: from the front, each block from how many are written ahead of it.
func chain(old []api.Record, blocks []int, n int, first api.Record, with bool, free []int) (l []link, taken int) {
	moved := max(n-1, 0)
	if with {
		l = append(l, link{free[moved], first})
		taken++
	}
	for i := range moved {
		l = append(l, link{free[moved-1-i], old[i]})
	}
	taken += moved
	for i := n; i < len(old); i++ {
		l = append(l, link{blocks[i], old[i]})
	}
	for i := range taken {
		l[i].r.Next = 0
		if i+1 < len(l) {
			l[i].r.Next = l[i+1].at
		}
	}
	return l, taken
}

// written answers what is to be written of a new chain: those on free blocks, by these.
func written(l []link, taken int) []api.Io {
	var out []api.Io
	for _, x := range l[:taken] {
		out = append(out, wrote(x.at, recordBlock(x.r)))
	}
	slices.SortFunc(out, func(a, b api.Io) int { return a.At - b.At })
	return out
}

// holdRecords holds Records against the model. It answers the new chain.
func holdRecords(t *testing.T, old []api.Record, blocks []int, n int, first api.Record, with bool, free []int) []link {
	t.Helper()
	want, taken := chain(old, blocks, n, first, with, free)
	wantAt := 0
	if len(want) > 0 {
		wantAt = want[0].at
	}
	l, at, rest, e := Records(old, blocks, n, first, with, free)
	if !sameSteps(l, written(want, taken)) || at != wantAt || !slices.Equal(rest, free[taken:]) || e != api.OK {
		t.Errorf("Records(%v, %v, %d, %v, %v, %v): %s, %d, %v, %d, want %s, %d", old, blocks, n, first, with, free, show(l), at, rest, e, show(written(want, taken)), wantAt)
	}
	return want
}

func recordsRefused(t *testing.T, old []api.Record, blocks []int, n int, first api.Record, with bool, free []int, want api.Errno) {
	t.Helper()
	if l, at, rest, e := Records(old, blocks, n, first, with, free); len(l)+len(rest) != 0 || at != 0 || e != want {
		t.Errorf("Records(%v, %v, %d, %v, %v, %v): %s, %d, %v, %d, want %d", old, blocks, n, first, with, free, show(l), at, rest, e, want)
	}
}

// P15.2: chains told by hand.
func TestByHand(t *testing.T) {
	a := api.Record{Next: 11, Id: 1, Parent: 7, Root: 5, Size: 6, Kind: api.Pending, Frames: 3, Digest: 4}
	b := api.Record{Next: 12, Id: 2, Parent: 1, Root: 8, Size: 9}
	c := api.Record{Next: 0, Id: 3, Size: 512}
	f := api.Record{Next: 99, Id: 9, Parent: 8, Root: 3, Size: 2}
	put := func(at int, r api.Record, next int) api.Io {
		r.Next = next
		return wrote(at, recordBlock(r))
	}
	old, blocks, free := []api.Record{a, b, c}, []int{10, 11, 12}, []int{20, 22, 23, 30, 31}
	for name, x := range map[string]struct {
		n    int
		with bool
		l    []api.Io
		at   int
	}{
		"nothing":                 {0, false, nil, 10},
		"a first one more":        {0, true, []api.Io{put(20, f, 10)}, 20},
		"the first one less":      {1, false, nil, 11},
		"another first one":       {1, true, []api.Io{put(20, f, 11)}, 20},
		"the second one less":     {2, false, []api.Io{put(20, a, 12)}, 20},
		"that and a first one":    {2, true, []api.Io{put(20, a, 12), put(22, f, 20)}, 22},
		"the last one less":       {3, false, []api.Io{put(20, b, 0), put(22, a, 20)}, 22},
		"the last, and a new one": {3, true, []api.Io{put(20, b, 0), put(22, a, 20), put(23, f, 22)}, 23},
	} {
		l, at, rest, e := Records(old, blocks, x.n, f, x.with, free)
		if !sameSteps(l, x.l) || at != x.at || !slices.Equal(rest, free[len(x.l):]) || e != api.OK {
			t.Errorf("%s: %s, %d, %v, %d, want %s, %d", name, show(l), at, rest, e, show(x.l), x.at)
		}
		holdRecords(t, old, blocks, x.n, f, x.with, free)
	}
	if l, at, rest, e := Records(nil, nil, 0, f, true, free); !sameSteps(l, []api.Io{put(20, f, 0)}) || at != 20 || !slices.Equal(rest, free[1:]) || e != api.OK {
		t.Errorf("one ahead of none: %s, %d, %v, %d", show(l), at, rest, e)
	}
	if l, at, rest, e := Records(nil, nil, 0, f, false, free); len(l) != 0 || at != 0 || !slices.Equal(rest, free) || e != api.OK {
		t.Errorf("none: %s, %d, %v, %d", show(l), at, rest, e)
	}
	if l, at, rest, e := Records(old[2:], blocks[2:], 1, f, false, free); len(l) != 0 || at != 0 || !slices.Equal(rest, free) || e != api.OK {
		t.Errorf("one less of one: %s, %d, %v, %d", show(l), at, rest, e)
	}
}

// P15.2: chains of each length, each n, with and without a first one, with just as many free blocks as are written, more, and fewer.
func TestEachPlace(t *testing.T) {
	for _, count := range []int{0, 1, 2, 3, 4, 5, 8, 59, 60, 61, 62, 200} {
		old, blocks := chainOf(count, 1000)
		for n := range count + 1 {
			for _, with := range []bool{false, true} {
				_, taken := chain(old, blocks, n, newFirst(), with, span(2, 900))
				for _, more := range []int{0, 1, 2, 50} {
					holdRecords(t, old, blocks, n, newFirst(), with, span(2, 2+taken+more))
					holdRecords(t, old, blocks, n, newFirst(), with, span(4096-taken-more, 4096))
				}
				for _, few := range []int{0, 1, taken - 2, taken - 1} {
					if few >= 0 && few < taken {
						recordsRefused(t, old, blocks, n, newFirst(), with, span(300, 300+few), api.ErrSpace)
					}
				}
				if taken == 0 {
					holdRecords(t, old, blocks, n, newFirst(), with, nil)
				}
			}
			if count > 8 && n > 4 && n < count-4 && n%10 != 0 {
				continue
			}
			for _, k := range []int{-1, -2, math.MinInt, math.MinInt + 1, count + 1, count + 2, 1<<32 + n, math.MaxInt} {
				recordsRefused(t, old, blocks, k, newFirst(), n%2 == 0, span(2, 900), api.ErrArg)
			}
		}
	}
}

// P15.2: as many blocks as records.
func TestHowManyBlocks(t *testing.T) {
	for _, count := range []int{0, 1, 2, 5, 60} {
		old, blocks := chainOf(count, 1000)
		more := append(slices.Clone(blocks), 3000)
		for n := range count + 1 {
			for _, with := range []bool{false, true} {
				recordsRefused(t, old, more, n, newFirst(), with, span(2, 900), api.ErrArg)
				recordsRefused(t, old, append(more, 3001), n, newFirst(), with, span(2, 900), api.ErrArg)
				if count > 0 {
					recordsRefused(t, old, blocks[:count-1], n, newFirst(), with, span(2, 900), api.ErrArg)
					recordsRefused(t, old, blocks[1:], n, newFirst(), with, span(2, 900), api.ErrArg)
					recordsRefused(t, old, nil, n, newFirst(), with, span(2, 900), api.ErrArg)
					recordsRefused(t, old[:count-1], blocks, n, newFirst(), with, span(2, 900), api.ErrArg)
					recordsRefused(t, nil, blocks, n, newFirst(), with, span(2, 900), api.ErrArg)
				}
			}
		}
	}
	recordsRefused(t, nil, []int{9}, 1, newFirst(), false, span(2, 900), api.ErrArg)
	recordsRefused(t, nil, []int{9}, 0, newFirst(), false, nil, api.ErrArg)
}

// changed answers l with another thing at a place.
func changed[T any](l []T, at int, x T) []T {
	out := slices.Clone(l)
	out[at] = x
	return out
}

// P15.2: blocks: each at its edges, at each place; what is said of free is not said of them: they may fall, be the same twice, be free.
func TestBlocks(t *testing.T) {
	old, blocks := chainOf(5, 1000)
	free := span(2, 12)
	for n := range 6 {
		for _, too := range []bool{false, true} {
			for place := range 5 {
				for _, at := range []int{2, 3, 1000, 4094, 4095} {
					holdRecords(t, old, changed(blocks, place, at), n, newFirst(), too, free)
				}
				for _, at := range append(far(), 0, 1) {
					recordsRefused(t, old, changed(blocks, place, at), n, newFirst(), too, free, api.ErrArg)
				}
			}
			holdRecords(t, old, []int{9, 8, 7, 6, 5}, n, newFirst(), too, free)
			holdRecords(t, old, []int{9, 9, 9, 9, 9}, n, newFirst(), too, free)
		}
	}
}

// P15.2: free: each at its edges, at each place, taken or not; it rises, and no block is there twice.
func TestFree(t *testing.T) {
	old, blocks := chainOf(5, 1000)
	for n := range 6 {
		for _, too := range []bool{false, true} {
			for _, free := range [][]int{
				{2, 3, 4, 5, 6, 7}, {4090, 4091, 4092, 4093, 4094, 4095}, {2, 100, 101, 4000, 4094, 4095}, {1000, 1001, 1002, 1003, 1004, 1005},
			} {
				holdRecords(t, old, blocks, n, newFirst(), too, free)
				for place := range 6 {
					for _, at := range append(far(), 0, 1) {
						recordsRefused(t, old, blocks, n, newFirst(), too, changed(free, place, at), api.ErrArg)
					}
					if place > 0 {
						for _, at := range []int{free[place-1], free[0], 2} {
							recordsRefused(t, old, blocks, n, newFirst(), too, changed(free, place, at), api.ErrArg)
						}
						if free[place-1] > 2 {
							recordsRefused(t, old, blocks, n, newFirst(), too, changed(free, place, free[place-1]-1), api.ErrArg)
						}
						swapped := changed(changed(free, place, free[place-1]), place-1, free[place])
						recordsRefused(t, old, blocks, n, newFirst(), too, swapped, api.ErrArg)
					}
				}
			}
		}
	}
	for _, free := range [][]int{{2}, {4095}, {2, 4095}} {
		holdRecords(t, nil, nil, 0, newFirst(), true, free)
		holdRecords(t, nil, nil, 0, newFirst(), false, free)
	}
	for _, at := range append(far(), 0, 1) {
		recordsRefused(t, nil, nil, 0, newFirst(), true, []int{at}, api.ErrArg)
		recordsRefused(t, nil, nil, 0, newFirst(), false, []int{at}, api.ErrArg)
	}
}

// rightKinds are changes that leave a record a right one, whatever Next it has, each number at its edges.
func rightKinds() []api.Record {
	var l []api.Record
	for _, id := range []int{1, 2, 255, 1 << 32, 1<<62 - 2, 1<<62 - 1} {
		l = append(l, api.Record{Id: id}, api.Record{Id: 77, Parent: id}, api.Record{Id: id, Parent: 77})
	}
	for _, root := range []int{0, 2, 3, 256, 4094, 4095} {
		l = append(l, api.Record{Id: 7, Root: root})
	}
	for _, size := range []int{0, 1, 255, 256, 511, 512} {
		l = append(l, api.Record{Id: 7, Size: size})
	}
	for _, n := range []int{1, 2, 256, 65534, 65535} {
		l = append(l, api.Record{Id: 7, Kind: api.Pending, Frames: n})
	}
	for _, n := range []int{0, 1, 256, 1<<31 - 1, 1 << 31, 1<<32 - 2, 1<<32 - 1} {
		l = append(l, api.Record{Id: 7, Kind: api.Pending, Frames: 1, Digest: n})
	}
	return l
}

// wrongKinds are records that are not right, whatever Next they have.
func wrongKinds() []api.Record {
	l := []api.Record{{}, {Id: 7, Parent: 7}, {Id: 7, Frames: 1}, {Id: 7, Digest: 1}, {Id: 7, Frames: -1}, {Id: 7, Digest: -1}, {Id: 7, Kind: api.Pending}}
	for _, n := range []int{0, -1, 1 << 62, 1<<62 + 1, math.MaxInt, math.MinInt, math.MinInt + 1} {
		l = append(l, api.Record{Id: n})
		if n != 0 {
			l = append(l, api.Record{Id: 7, Parent: n})
		}
	}
	for _, n := range append(far(), 1) {
		l = append(l, api.Record{Id: 7, Root: n})
	}
	for _, n := range append(far(), 513, 514) {
		l = append(l, api.Record{Id: 7, Size: n})
	}
	for _, n := range []int{-1, 2, 3, 256, 257, 1 << 32, 1<<32 + 1, math.MinInt, math.MinInt + 1, math.MaxInt} {
		l = append(l, api.Record{Id: 7, Kind: n}, api.Record{Id: 7, Kind: n, Frames: 1})
	}
	for _, n := range []int{0, -1, 65536, 65537, 1 << 32, 1<<32 + 1, math.MinInt, math.MinInt + 1, math.MaxInt} {
		l = append(l, api.Record{Id: 7, Kind: api.Pending, Frames: n})
	}
	for _, n := range []int{-1, -2, 1 << 32, 1<<32 + 1, math.MinInt, math.MaxInt} {
		l = append(l, api.Record{Id: 7, Kind: api.Pending, Frames: 1, Digest: n})
	}
	return l
}

// wrongNexts are no blocks that a record may lead to.
func wrongNexts() []int {
	return append(far(), 1)
}

// P15.2: each of old is right, at each place, written or not, left out or not; what its Next says is looked at, but not gone by.
func TestOldRecords(t *testing.T) {
	old, blocks := chainOf(5, 1000)
	free := span(2, 12)
	for n := range 6 {
		for _, too := range []bool{false, true} {
			for place := range 5 {
				for _, r := range rightKinds() {
					holdRecords(t, changed(old, place, r), blocks, n, newFirst(), too, free)
				}
				for _, r := range wrongKinds() {
					recordsRefused(t, changed(old, place, r), blocks, n, newFirst(), too, free, api.ErrArg)
				}
				for _, next := range wrongNexts() {
					r := old[place]
					r.Next = next
					recordsRefused(t, changed(old, place, r), blocks, n, newFirst(), too, free, api.ErrArg)
				}
				for _, next := range []int{0, 2, 3, 1000, 4094, 4095} {
					r := old[place]
					r.Next = next
					holdRecords(t, changed(old, place, r), blocks, n, newFirst(), too, free)
				}
			}
		}
	}
}

// P15.2: a first one is right but for its Next, if it is with: if not, it is no matter what it is.
func TestFirst(t *testing.T) {
	free := span(2, 12)
	for _, count := range []int{0, 1, 4} {
		old, blocks := chainOf(count, 1000)
		for n := range count + 1 {
			for _, r := range rightKinds() {
				for _, next := range append(wrongNexts(), 0, 2, 9, 1000, 4095) {
					r.Next = next
					holdRecords(t, old, blocks, n, r, true, free)
					holdRecords(t, old, blocks, n, r, false, free)
				}
			}
			for _, r := range wrongKinds() {
				for _, next := range []int{0, 9, -1} {
					r.Next = next
					recordsRefused(t, old, blocks, n, r, true, free, api.ErrArg)
					holdRecords(t, old, blocks, n, r, false, free)
				}
			}
		}
	}
}

// P15.2: what is not said is not asked: one Id twice, more snapshots than an image may have, a pending one behind others.
func TestNotAsked(t *testing.T) {
	old, blocks := chainOf(200, 1000)
	for i := range old {
		old[i].Id, old[i].Parent = 5, 6
		old[i].Kind, old[i].Frames, old[i].Digest = i%2, i%2, 0
	}
	for _, n := range []int{0, 1, 2, 61, 100, 199, 200} {
		holdRecords(t, old, blocks, n, old[3], true, span(2, 900))
		holdRecords(t, old, blocks, n, old[3], false, span(2, 900))
	}
	old, blocks = chainOf(4094, 2)
	holdRecords(t, old, blocks, 4094, newFirst(), true, span(2, 4096))
	recordsRefused(t, old, blocks, 4094, newFirst(), true, span(3, 4096), api.ErrSpace)
}

// P15.2: which error stands where two would do: what may not be, ahead of too few free blocks.
func TestWhichErrorOfRecords(t *testing.T) {
	old, blocks := chainOf(5, 1000)
	few := []int{2, 3}
	recordsRefused(t, old, blocks, 5, newFirst(), true, few, api.ErrSpace)
	recordsRefused(t, old, blocks, 5, newFirst(), false, few, api.ErrSpace)
	for _, too := range []bool{false, true} {
		recordsRefused(t, old, blocks[:4], 4, newFirst(), too, few, api.ErrArg)
		recordsRefused(t, old, append(blocks, 9), 5, newFirst(), too, few, api.ErrArg)
		recordsRefused(t, old, blocks, -1, newFirst(), too, few, api.ErrArg)
		recordsRefused(t, old, blocks, 6, newFirst(), too, few, api.ErrArg)
		for place := range 5 {
			recordsRefused(t, old, changed(blocks, place, 1), 5, newFirst(), too, few, api.ErrArg)
			recordsRefused(t, changed(old, place, api.Record{}), blocks, 5, newFirst(), too, few, api.ErrArg)
		}
		for _, free := range [][]int{{1}, {1, 3}, {2, 4096}, {3, 3}, {3, 2}, {-1, 2}, {0}} {
			recordsRefused(t, old, blocks, 5, newFirst(), too, free, api.ErrArg)
		}
	}
	recordsRefused(t, old, blocks, 5, api.Record{}, true, few, api.ErrArg)
	recordsRefused(t, old, blocks, 5, api.Record{}, false, few, api.ErrSpace)
	recordsRefused(t, old, blocks, 0, api.Record{}, true, nil, api.ErrArg)
	recordsRefused(t, old, blocks, 0, newFirst(), true, nil, api.ErrSpace)
}

// standing is a superblock that stands, and its slot.
type standing struct {
	s    api.Super
	slot int
}

// laid answers a device on which that superblock stands, its other blocks full of bytes, what is given in the other slot.
func (x standing) laid(other []byte) []byte {
	img := device(x.s.Blocks)
	for at := range img {
		img[at] = byte(at/64) ^ 0xA5
	}
	set(img, 1-x.slot, other)
	set(img, x.slot, superBlock(x.s.Gen, x.s.Blocks, x.s.Root, x.s.Size, x.s.First))
	return img
}

// next answers what stands behind a commit.
func (x standing) next(root, size, first int) standing {
	return standing{api.Super{Gen: x.s.Gen + 1, Blocks: x.s.Blocks, Root: root, Size: size, First: first}, 1 - x.slot}
}

// state answers the state in which it stands.
func (x standing) state() api.State {
	return api.State{Super: x.s, Slot: x.slot}
}

// crashes calls what for each crash of l: each cut, and all keeps of the writes that no flush stands behind, where these are few; else some.
func crashes(t *testing.T, img []byte, l []api.Io, what func(cut int, keep []bool, left []byte)) {
	t.Helper()
	roll := dice()
	for cut := range len(l) + 1 {
		loose := 0
		for loose < cut && l[cut-1-loose].Kind == api.IoWrite {
			loose++
		}
		for k := range min(1<<min(loose, 20), 128) {
			keep := make([]bool, loose)
			for i := range keep {
				keep[i] = k>>i&1 == 1
				if loose > 7 {
					keep[i] = k == 0 || k > 1 && roll(2) == 0
				}
			}
			left, e := dev.Crash(img, l, cut, keep)
			if e != api.OK {
				t.Fatalf("the steps are refused: %d", e)
			}
			what(cut, keep, left)
		}
	}
}

// holdPick holds which superblock stands, and where.
func holdPick(t *testing.T, img []byte, want standing) {
	t.Helper()
	if s, slot, e := super.Pick(img); s != want.s || slot != want.slot || e != api.OK {
		t.Errorf("%v stands in slot %d, %d, want %v in %d", s, slot, e, want.s, want.slot)
	}
}

// others are what may stand in the slot of no superblock of that device: nothing, something else, an older one, the one of another device, a broken one.
func others(x standing) [][]byte {
	s := x.s
	l := [][]byte{make([]byte, 64), bytes.Repeat([]byte{0xFF}, 64), superBlock(s.Gen+9, s.Blocks+1, 0, 0, 0), superBlock(0, s.Blocks, 0, 0, 0)}
	broken := superBlock(s.Gen+2, s.Blocks, s.Root, s.Size, s.First)
	broken[20] ^= 1
	if s.Gen > 1 {
		l = append(l, superBlock(s.Gen-1, s.Blocks, 2, 3, 2), superBlock(1, s.Blocks, 0, 0, 0))
	}
	return append(l, broken)
}

// P15.3, T2: whatever a crash leaves of a commit, up to the last flush but one the old superblock stands, behind the last one the new one, between them one of both, and the new one only with all that is written.
func TestCrashes(t *testing.T) {
	for slot := range 2 {
		for _, gen := range []int{1, 5, 1<<40 - 1} {
			was := standing{api.Super{Gen: gen, Blocks: 9, Root: 4, Size: 8, First: 3}, slot}
			is := was.next(5, 7, 2)
			for _, other := range others(was) {
				for _, count := range []int{0, 1, 2, 4, 6} {
					var writes []api.Io
					for i := range count {
						writes = append(writes, wr(2+i*5%7, byte(i)))
					}
					holdCrashes(t, was, is, was.laid(other), writes)
				}
				holdCrashes(t, was, is, was.laid(other), []api.Io{wr(8, 1), wr(8, 2), wr(2, 3)})
			}
		}
	}
}

func holdCrashes(t *testing.T, was, is standing, img []byte, writes []api.Io) {
	t.Helper()
	l, e := Steps(was.state(), writes, is.s.Root, is.s.Size, is.s.First)
	if e != api.OK {
		t.Fatal(e)
	}
	flushes := dev.Flushes(l)
	if len(flushes) != 2 {
		t.Fatalf("flushes at %v", flushes)
	}
	all, _ := dev.Apply(img, writes)
	touched := map[int]int{1 - was.slot: 1}
	for _, x := range writes {
		touched[x.At] = 1
	}
	met := map[standing]int{}
	crashes(t, img, l, func(cut int, keep []bool, left []byte) {
		s, slot, e := super.Pick(left)
		now := standing{s, slot}
		if cut <= flushes[0]+1 && now != was || cut > flushes[1] && now != is || now != was && now != is || e != api.OK {
			t.Errorf("cut at %d, kept %v: %v, %d, was %v, to be %v", cut, keep, now, e, was, is)
		}
		if now == is && !bytes.Equal(left[128:], all[128:]) {
			t.Errorf("cut at %d, kept %v: the new superblock stands without all that is written", cut, keep)
		}
		for at := range was.s.Blocks {
			if touched[at] == 0 && !bytes.Equal(left[at*64:at*64+64], img[at*64:at*64+64]) {
				t.Errorf("cut at %d, kept %v: block %d is another one", cut, keep, at)
			}
		}
		met[now]++
	})
	if met[was] < len(writes)+3 || met[is] < 2 {
		t.Errorf("the old one stood %d times, the new one %d times", met[was], met[is])
	}
}

// P15.3: two commits one behind the other: what stands is one of three, and never an older one than the flushes ahead of the cut say.
func TestTwoCommits(t *testing.T) {
	for slot := range 2 {
		was := standing{api.Super{Gen: 1<<40 - 2, Blocks: 12, Root: 4, Size: 8, First: 3}, slot}
		mid := was.next(5, 7, 2)
		is := mid.next(0, 0, 11)
		for _, other := range others(was) {
			img := was.laid(other)
			one, _ := Steps(was.state(), []api.Io{wr(5, 1), wr(7, 2)}, 5, 7, 2)
			two, e := Steps(mid.state(), []api.Io{wr(11, 3), wr(5, 4), wr(4, 5)}, 0, 0, 11)
			if e != api.OK {
				t.Fatal(e)
			}
			l := slices.Concat(one, two)
			flushes := dev.Flushes(l)
			met := map[standing]int{}
			crashes(t, img, l, func(cut int, keep []bool, left []byte) {
				s, slot, e := super.Pick(left)
				now := standing{s, slot}
				may := []standing{was}
				switch {
				case cut > flushes[3]:
					may = []standing{is}
				case cut > flushes[2]+1:
					may = []standing{mid, is}
				case cut > flushes[1]:
					may = []standing{mid}
				case cut > flushes[0]+1:
					may = []standing{was, mid}
				}
				if !slices.Contains(may, now) || e != api.OK {
					t.Errorf("cut at %d, kept %v: %v, %d, want one of %v", cut, keep, now, e, may)
				}
				met[now]++
			})
			if len(met) != 3 {
				t.Errorf("only %v stood", slices.Collect(maps.Keys(met)))
			}
			stepsRefused(t, api.State{Super: api.Super{Gen: is.s.Gen, Blocks: 12}, Slot: is.slot}, nil, 0, 0, 0, api.ErrImage)
		}
	}
}

// P15.3: commits one behind the other, each upon what the one ahead of it left: each one's superblock stands in the other slot, of a Gen of one more.
func TestManyCommits(t *testing.T) {
	roll := dice()
	img, _ := open.New(20)
	now := standing{api.Super{Gen: 1, Blocks: 20}, 0}
	for range 60 {
		holdPick(t, img, now)
		var writes []api.Io
		for range roll(4) {
			writes = append(writes, wr(2+roll(18), byte(roll(256))))
		}
		is := now.next(2+roll(18), roll(513), 2+roll(18))
		l, e := Steps(now.state(), writes, is.s.Root, is.s.Size, is.s.First)
		if e != api.OK {
			t.Fatal(e)
		}
		holdCrashes(t, now, is, img, writes)
		img, _ = dev.Apply(img, l)
		now = is
	}
}

// told answers the records of img from a block on, one by one, and their blocks, by other means than the program's.
func told(img []byte, at int) (l []link, ok bool) {
	for at != 0 {
		if at < 2 || at >= len(img)/64 || len(l) > len(img)/64 {
			return nil, false
		}
		r, is := recordOf(img[at*64 : at*64+64])
		if !is {
			return nil, false
		}
		l = append(l, link{at, r})
		at = r.Next
	}
	return l, true
}

// chained answers a device of so many blocks with so many records, from block 3 on in steps of three, and what they are: the first one pending or not.
func chained(blocks, count, slot int, pending bool) (img []byte, was standing, old []api.Record, places []int) {
	old, _ = chainOf(count, 0)
	if count > 0 && !pending {
		old[0].Kind, old[0].Frames, old[0].Digest = api.Whole, 0, 0
	}
	for i := range count {
		places = append(places, 3+3*i)
		old[i].Root, old[i].Next = 0, 3+3*(i+1)
	}
	first := 0
	if count > 0 {
		first, old[count-1].Next = 3, 0
	}
	was = standing{api.Super{Gen: 8, Blocks: blocks, Size: 40, First: first}, slot}
	img = was.laid(make([]byte, 64))
	for i, r := range old {
		set(img, places[i], recordBlock(r))
	}
	return img, was, old, places
}

// P15.2, T2: a new chain, laid upon a device, and whatever a crash leaves of its commit: the records, told one by one from the superblock that stands, are the old ones or the new ones.
func TestChainsOnADevice(t *testing.T) {
	for _, count := range []int{0, 1, 2, 3, 5} {
		for n := range count + 1 {
			for k := range 4 {
				// Ahead of a pending record there may be none: only where it is left out, there is another first one.
				img, was, old, places := chained(24, count, k/2, k%2 == 0 || n == 1)
				free := slices.DeleteFunc(span(2, 24), func(at int) bool { return slices.Contains(places, at) })
				r := api.Record{Next: -7, Id: 1 << 40, Parent: 3, Size: 77}
				want := holdRecords(t, old, places, n, r, k%2 == 1, free)
				holdChain(t, img, was, want, old, places, n, r, k%2 == 1, free)
			}
		}
	}
}

func holdChain(t *testing.T, img []byte, was standing, want []link, old []api.Record, places []int, n int, r api.Record, too bool, free []int) {
	t.Helper()
	before, ok := told(img, was.s.First)
	if !ok || len(before) != len(old) {
		t.Fatalf("%v stood", before)
	}
	writes, at, rest, e := Records(old, places, n, r, too, free)
	l, f := Steps(was.state(), writes, 0, 40, at)
	if e != api.OK || f != api.OK {
		t.Fatal(e, f)
	}
	met := map[int]int{}
	crashes(t, img, l, func(cut int, keep []bool, left []byte) {
		s, _, e := super.Pick(left)
		now, ok := told(left, s.First)
		met[s.Gen-was.s.Gen]++
		if !slices.Equal(now, [][]link{before, want}[min(1, s.Gen-was.s.Gen)]) || !ok || e != api.OK {
			t.Errorf("cut at %d, kept %v: %v, %d, was %v, to be %v", cut, keep, now, e, before, want)
		}
	})
	if len(met) != 2 || met[0] < len(writes)+3 || met[1] < 2 {
		t.Errorf("which stood, and how often: %v", met)
	}
	out, _ := dev.Apply(img, l)
	var records []api.Record
	var blocks []int
	for _, x := range want {
		records, blocks = append(records, x.r), append(blocks, x.at)
	}
	if is, on, e := open.Records(out, at); !slices.Equal(is, records) || !slices.Equal(on, blocks) || e != api.OK {
		t.Errorf("%v on %v, %d, want %v on %v", is, on, e, records, blocks)
	}
	for _, at := range rest {
		if slices.Contains(blocks, at) || !bytes.Equal(out[at*64:at*64+64], img[at*64:at*64+64]) {
			t.Errorf("block %d is left, and written", at)
		}
	}
}

// held is what an image holds, as the tests keep it: of each sector what it is full of, and each record's of these.
type held struct {
	size    int
	head    [512]byte
	records []heldRecord
}

type heldRecord struct {
	id, parent, size int
	head             [512]byte
}

func sameHeld(a, b held) bool {
	return a.size == b.size && a.head == b.head && slices.Equal(a.records, b.records)
}

// sectorsOf answers what each sector of a tree is full of.
func sectorsOf(t *testing.T, img []byte, root int) (l [512]byte) {
	t.Helper()
	m, e := tree.Map(img, root)
	if e != api.OK {
		t.Fatalf("root %d: %d", root, e)
	}
	for s, at := range m {
		if at != 0 {
			l[s] = img[at*64]
		}
	}
	return l
}

// heldBy answers what img holds, which opens.
func heldBy(t *testing.T, img []byte) held {
	t.Helper()
	s, e := open.Open(img)
	if e != api.OK {
		t.Fatalf("the image does not open: %d", e)
	}
	h := held{size: s.Super.Size, head: sectorsOf(t, img, s.Super.Root)}
	for _, r := range s.Records {
		h.records = append(h.records, heldRecord{r.Id, r.Parent, r.Size, sectorsOf(t, img, r.Root)})
	}
	return h
}

// freeOf answers the blocks of img that no tree and no record has, by other means than the program's.
func freeOf(t *testing.T, img []byte, s api.State) []int {
	t.Helper()
	taken := map[int]int{0: 1, 1: 1}
	roots := []int{s.Super.Root}
	chain, _ := told(img, s.Super.First)
	for _, x := range chain {
		taken[x.at] = 1
		roots = append(roots, x.r.Root)
	}
	for _, root := range roots {
		m, e := tree.Map(img, root)
		nodes, f := tree.Nodes(img, root)
		if e != api.OK || f != api.OK {
			t.Fatal(root, e, f)
		}
		for _, at := range append(m, nodes...) {
			taken[at] = 1
		}
	}
	return slices.DeleteFunc(span(2, len(img)/64), func(at int) bool { return taken[at] == 1 })
}

// fill answers the steps that fill some sectors of the head, and what it holds then; no steps, if too few blocks are free.
func fill(t *testing.T, roll func(n int) int, img []byte, s api.State, h held) ([]api.Io, held) {
	t.Helper()
	m, _ := tree.Map(img, s.Super.Root)
	free := freeOf(t, img, s)
	var writes []api.Io
	size := max(s.Super.Size, 1+roll(512))
	for range roll(4) {
		at, c := roll(size), byte(roll(256))
		for i := range 1 + roll(2) {
			if at+i < size && len(free) > 0 {
				writes = append(writes, wr(free[0], c))
				m[at+i], h.head[at+i], free = free[0], c, free[1:]
			}
		}
	}
	root, nodes, _, e := build.Tree(img, s.Super.Root, m, free)
	if e != api.OK {
		return nil, h
	}
	l, e := Steps(s, append(writes, nodes...), root, size, s.Super.First)
	if e != api.OK {
		t.Fatal(e)
	}
	h.size = size
	return l, h
}

// rechain answers the steps of a record more, one less, or both, and what the image holds then; no steps, if too few blocks are free.
func rechain(t *testing.T, roll func(n int) int, img []byte, s api.State, h held, id int) ([]api.Io, held) {
	t.Helper()
	n, too := roll(len(s.Records)+1), roll(3) > 0
	first := api.Record{Next: -id, Id: id, Root: s.Super.Root, Size: s.Super.Size}
	_, places, _ := open.Records(img, s.Super.First)
	writes, at, _, e := Records(s.Records, places, n, first, too, freeOf(t, img, s))
	if e != api.OK {
		return nil, h
	}
	l, e := Steps(s, writes, s.Super.Root, s.Super.Size, at)
	if e != api.OK {
		t.Fatal(e)
	}
	h.records = slices.Clone(h.records)
	if n > 0 {
		h.records = slices.Delete(h.records, n-1, n)
	}
	if too {
		h.records = slices.Insert(h.records, 0, heldRecord{id: id, size: h.size, head: h.head})
	}
	return l, h
}

// T2: commits of heads and of records, one behind the other, thrown: whatever a crash leaves of each, the image opens, and holds what it held, or what it was to hold.
func TestCrashesOfImages(t *testing.T) {
	roll := dice()
	img, _ := open.New(90)
	h, made := held{}, 0
	for id := 1; id < 150; id++ {
		s, _ := open.Open(img)
		next := fill
		if id%2 == 0 {
			next = func(t *testing.T, roll func(n int) int, img []byte, s api.State, h held) ([]api.Io, held) {
				return rechain(t, roll, img, s, h, id)
			}
		}
		l, to := next(t, roll, img, s, h)
		if l == nil {
			img, _ = open.New(90)
			h = held{}
			continue
		}
		crashes(t, img, l, func(cut int, keep []bool, left []byte) {
			if now := heldBy(t, left); cut < len(l)-1 && !sameHeld(now, h) || cut == len(l) && !sameHeld(now, to) || !sameHeld(now, h) && !sameHeld(now, to) {
				t.Fatalf("commit %d, cut at %d, kept %v: %v", id, cut, keep, now)
			}
		})
		img, _ = dev.Apply(img, l)
		h = to
		made++
	}
	if made < 100 {
		t.Errorf("only %d commits were made", made)
	}
}

// mostly answers a number from least to most, but now and then one near these, or far from them.
func mostly(roll func(n int) int, least, most int) int {
	switch roll(60) {
	case 0:
		return least - 1 - roll(2)
	case 1:
		return most + 1 + roll(2)
	case 2:
		return far()[roll(len(far()))]
	case 3:
		return least
	case 4:
		return most
	}
	return least + roll(most-least+1)
}

// leading answers a block, or none.
func leading(roll func(n int) int, blocks int) int {
	return mostly(roll, 2, blocks-1) * min(1, roll(4))
}

func between(n, least, most int) bool {
	return least <= n && n <= most
}

// wantSteps answers the chapter's error for all that Steps is given, by other means than the program's.
func wantSteps(s api.State, l []api.Io, root, size, first int) api.Errno {
	blocks := s.Super.Blocks
	leads := func(at int) bool { return at == 0 || between(at, 2, blocks-1) }
	x := s.Super
	if !between(x.Gen, 1, 1<<40-1) || !between(blocks, 4, 4096) || !leads(x.Root) || !leads(x.First) || !between(x.Size, 0, 512) || s.Slot != 0 && s.Slot != 1 {
		return api.ErrImage
	}
	ok := leads(root) && leads(first) && between(size, 0, 512)
	for _, x := range l {
		ok = ok && x.Kind == 1 && between(x.At, 2, blocks-1) && len(x.Data) == 64
	}
	if !ok {
		return api.ErrArg
	}
	return api.OK
}

// P15.1: whatever is thrown: the commit, or the chapter's error.
func TestThrownSteps(t *testing.T) {
	roll := dice()
	met := map[api.Errno]int{}
	for range 20000 {
		blocks := []int{4, 5, 9, 4095, 4096}[roll(5)]
		s := api.State{Slot: roll(2)}
		s.Super = api.Super{Gen: mostly(roll, 1, 1<<40-1), Blocks: blocks, Root: leading(roll, blocks), Size: mostly(roll, 0, 512), First: leading(roll, blocks)}
		if roll(20) == 0 {
			s.Slot, s.Super.Blocks = mostly(roll, 0, 1), mostly(roll, 4, 4096)
		}
		var l []api.Io
		for range roll(6) {
			x := wr(mostly(roll, 2, blocks-1), byte(roll(256)))
			if roll(60) == 0 {
				x.Kind = mostly(roll, 0, 2)
			}
			if roll(60) == 0 {
				x.Data = make([]byte, 62+roll(5))
			}
			l = append(l, x)
		}
		root, size, first := leading(roll, blocks), mostly(roll, 0, 512), leading(roll, blocks)
		want := wantSteps(s, l, root, size, first)
		met[want]++
		if want == api.OK {
			holdSteps(t, s, l, root, size, first)
		} else {
			stepsRefused(t, s, l, root, size, first, want)
		}
	}
	if met[api.OK] < 1000 || met[api.ErrArg] < 1000 || met[api.ErrImage] < 1000 {
		t.Errorf("what was thrown: %v", met)
	}
}

// rightRecord tells whether r is one, by other means than the program's.
func rightRecord(r api.Record) bool {
	leads := func(at int) bool { return at == 0 || between(at, 2, 4095) }
	ok := leads(r.Next) && leads(r.Root) && between(r.Id, 1, 1<<62-1) && between(r.Parent, 0, 1<<62-1) && r.Parent != r.Id && between(r.Size, 0, 512)
	if r.Kind == 1 {
		return ok && between(r.Frames, 1, 65535) && between(r.Digest, 0, 1<<32-1)
	}
	return ok && r.Kind == 0 && r.Frames == 0 && r.Digest == 0
}

// wantRecords answers the chapter's error for all that Records is given, by other means than the program's.
func wantRecords(old []api.Record, blocks []int, n int, first api.Record, with bool, free []int) api.Errno {
	ok := len(old) == len(blocks) && between(n, 0, len(old))
	for _, r := range old {
		ok = ok && rightRecord(r)
	}
	for _, at := range slices.Concat(blocks, free) {
		ok = ok && between(at, 2, 4095)
	}
	for i := range free {
		ok = ok && !slices.ContainsFunc(free[:i], func(at int) bool { return at >= free[i] })
	}
	first.Next = 2
	if !ok || with && !rightRecord(first) {
		return api.ErrArg
	}
	moved := max(n, 1) - 1
	if len(free) < moved || with && len(free) == moved {
		return api.ErrSpace
	}
	return api.OK
}

// thrownRecord is mostly a right one.
func thrownRecord(roll func(n int) int) api.Record {
	r := api.Record{Next: leading(roll, 4096), Id: 1 + roll(1<<20), Parent: roll(1 << 20), Root: leading(roll, 4096), Size: mostly(roll, 0, 512)}
	if roll(3) == 0 {
		r.Kind, r.Frames, r.Digest = api.Pending, mostly(roll, 1, 65535), mostly(roll, 0, 1<<32-1)
	}
	switch roll(200) {
	case 0:
		r.Parent = r.Id
	case 1:
		r.Id, r.Parent = mostly(roll, 1, 1<<62-1), mostly(roll, 0, 1<<62-1)
	case 2:
		r.Kind = mostly(roll, 0, 1)
	case 3:
		r.Frames, r.Digest = roll(2), roll(2)
	}
	return r
}

// P15.2: whatever is thrown: the new chain, or the chapter's error.
func TestThrownRecords(t *testing.T) {
	roll := dice()
	met := map[api.Errno]int{}
	for range 20000 {
		var old []api.Record
		var blocks, free []int
		for range roll(8) {
			old, blocks = append(old, thrownRecord(roll)), append(blocks, mostly(roll, 2, 4095))
		}
		if roll(40) == 0 {
			blocks = append(blocks, 9)[roll(2):]
		}
		for at := 2 + roll(4090); at < 4096 && len(free) < roll(12); at += 1 + roll(100)*roll(2) {
			free = append(free, at)
		}
		if len(free) > 0 && roll(20) == 0 {
			free[roll(len(free))] = mostly(roll, 2, 4095)
		}
		n := roll(len(old) + 1)
		if roll(40) == 0 {
			n = mostly(roll, 0, len(old))
		}
		first, too := thrownRecord(roll), roll(2) == 0
		want := wantRecords(old, blocks, n, first, too, free)
		met[want]++
		if want == api.OK {
			holdRecords(t, old, blocks, n, first, too, free)
		} else {
			recordsRefused(t, old, blocks, n, first, too, free, want)
		}
	}
	if met[api.OK] < 1000 || met[api.ErrArg] < 1000 || met[api.ErrSpace] < 1000 {
		t.Errorf("what was thrown: %v", met)
	}
}

// spared answers l with room behind that is full of c.
func spared[T any](l []T, c T) []T {
	return append(slices.Clone(l), slices.Repeat([]T{c}, 1000)...)[:len(l)]
}

// intact tells whether l, which spared answered, and its room are as they were.
func intact[T comparable](l, was []T, c T) bool {
	return slices.Equal(l, was) && slices.Equal(l[len(l):len(l)+1000], slices.Repeat([]T{c}, 1000))
}

// R2, R6: no argument of Steps is changed, its spare room neither, and what lies behind its length is not read.
func TestArgumentsOfStepsStay(t *testing.T) {
	right := []api.Io{wr(2, 1), wr(8, 2), wr(5, 3)}
	for _, l := range [][]api.Io{nil, right, right[:1], {wr(2, 1), fl()}, {wr(2, 1), wr(9, 1)}, {wrote(2, make([]byte, 63))}, {wrote(2, nil)}} {
		for _, root := range []int{0, 1, 5} {
			for _, slot := range []int{0, 1, 2} {
				s := state(slot)
				s.Records = []api.Record{rec(3), rec(4)}
				want, wantE := Steps(s, l, root, 3, 2)
				for _, c := range []byte{0, 1, 9, 255} {
					s.Records = spared([]api.Record{rec(3), rec(4)}, rec(int(c)))
					full := spared(slices.Clone(l), wr(3, c))
					for i := range l {
						full[i].Data = spared(l[i].Data, c)
					}
					got, e := Steps(s, full, root, 3, 2)
					if !sameSteps(got, want) || e != wantE {
						t.Errorf("with room behind: %s, %d, want %s, %d", show(got), e, show(want), wantE)
					}
					for i := range l {
						if full[i].Kind != l[i].Kind || full[i].At != l[i].At || !intact(full[i].Data, l[i].Data, c) {
							t.Errorf("write %d is changed", i)
						}
					}
					if !sameSteps(full[len(l):len(l)+1000], slices.Repeat([]api.Io{wr(3, c)}, 1000)) || !intact(s.Records, []api.Record{rec(3), rec(4)}, rec(int(c))) {
						t.Error("the room of an argument is changed")
					}
				}
			}
		}
	}
}

// R2, R6: no argument of Records is changed, its spare room neither, and what lies behind its length is not read.
func TestArgumentsOfRecordsStay(t *testing.T) {
	old, blocks := chainOf(4, 1000)
	for _, old := range [][]api.Record{old, old[:3], nil, changed(old, 3, api.Record{})} {
		for _, blocks := range [][]int{blocks, blocks[:3], nil, changed(blocks, 0, 1)} {
			for _, free := range [][]int{span(2, 12), {7, 9}, {7, 7}, nil} {
				for n := range 6 {
					for _, too := range []bool{false, true} {
						holdStays(t, old, blocks, n, too, free)
					}
				}
			}
		}
	}
	recordsRefused(t, old, blocks, 4, newFirst(), true, span(2, 12)[:3], api.ErrSpace)
	recordsRefused(t, old, blocks[:3], 3, newFirst(), true, span(2, 12), api.ErrArg)
	recordsRefused(t, old[:3], blocks, 3, newFirst(), true, span(2, 12), api.ErrArg)
	holdRecords(t, old[:2], blocks[:2], 2, newFirst(), true, span(2, 12)[:2])
}

// holdStays holds Records with room behind what it is given against the same without.
func holdStays(t *testing.T, old []api.Record, blocks []int, n int, too bool, free []int) {
	t.Helper()
	want, wantAt, wantRest, wantE := Records(slices.Clip(old), slices.Clip(blocks), n, newFirst(), too, slices.Clip(free))
	for _, c := range []int{0, 1, 9, 4095} {
		o, b, f := spared(old, rec(c)), spared(blocks, c), spared(free, c)
		l, at, rest, e := Records(o, b, n, newFirst(), too, f)
		if !sameSteps(l, want) || at != wantAt || !slices.Equal(rest, wantRest) || e != wantE {
			t.Errorf("with room behind: %s, %d, %v, %d, want %s, %d, %v, %d", show(l), at, rest, e, show(want), wantAt, wantRest, wantE)
		}
		if !intact(o, old, rec(c)) || !intact(b, blocks, c) || !intact(f, free, c) {
			t.Error("an argument is changed")
		}
	}
}

// scrawl writes all over l, its spare room too.
func scrawl[T any](l []T, with T) {
	l = l[:cap(l)]
	for i := range l {
		l[i] = with
	}
}

// holdApart writes all over each step's data, and then over the steps: no data may be another's.
func holdApart(t *testing.T, l []api.Io) {
	t.Helper()
	for k, x := range l {
		scrawl(x.Data, byte(k))
	}
	for k, x := range l {
		if !bytes.Equal(x.Data[:cap(x.Data)], bytes.Repeat([]byte{byte(k)}, cap(x.Data))) {
			t.Errorf("step %d shares memory with another one", k)
		}
	}
	scrawl(l, api.Io{Kind: -7})
}

// R2: the answer of Steps is memory of its own: no data is another's, even where two that were handed in are one.
func TestStepsAreNew(t *testing.T) {
	for _, spare := range []int{0, 1, 2, 3, 10} {
		twice := bytes.Repeat([]byte{9}, 256)
		l := make([]api.Io, 4, 4+spare)
		copy(l, []api.Io{wrote(2, twice[:64]), wrote(3, twice[:64]), wrote(4, twice[32:96]), wrote(5, twice[128:192:192])})
		got, _ := Steps(state(0), l, 2, 3, 4)
		again, _ := Steps(state(0), l, 2, 3, 4)
		none, _ := Steps(state(0), nil, 2, 3, 4)
		holdApart(t, got)
		holdApart(t, none)
		nines := bytes.Repeat([]byte{9}, 64)
		want := []api.Io{wrote(2, nines), wrote(3, nines), wrote(4, nines), wrote(5, nines)}
		if !bytes.Equal(twice, bytes.Repeat([]byte{9}, 256)) || !sameSteps(l, want) || !sameSteps(l[4:4+spare], make([]api.Io, spare)) {
			t.Error("an answer shares memory with an argument")
		}
		want = append(want, fl(), wrote(1, superBlock(6, 9, 2, 3, 4)), fl())
		if !sameSteps(again, want) {
			t.Error("two answers share memory")
		}
		scrawl(twice, 1)
		scrawl(l, api.Io{Kind: -7})
		if !sameSteps(again, want) {
			t.Error("an argument shares memory with an answer")
		}
	}
}

// R2: the answers of Records are memory of their own.
func TestRecordsAreNew(t *testing.T) {
	for n := range 6 {
		for _, too := range []bool{false, true} {
			for _, more := range []int{0, 1, 3} {
				old, blocks := chainOf(5, 1000)
				want, taken := chain(old, blocks, n, newFirst(), too, span(2, 12))
				free := slices.Clip(span(2, 2+taken+more))
				l, _, rest, _ := Records(old, blocks, n, newFirst(), too, free)
				again, _, restAgain, _ := Records(old, blocks, n, newFirst(), too, free)
				holdApart(t, l)
				scrawl(rest, -7)
				wasOld, wasBlocks := chainOf(5, 1000)
				if !slices.Equal(old, wasOld) || !slices.Equal(blocks, wasBlocks) || !slices.Equal(free, span(2, 2+taken+more)) {
					t.Error("an answer shares memory with an argument")
				}
				scrawl(old, api.Record{})
				scrawl(blocks, -1)
				scrawl(free, -1)
				if !sameSteps(again, written(want, taken)) || !slices.Equal(restAgain, span(2+taken, 2+taken+more)) {
					t.Error("an answer shares memory with an argument or with another answer")
				}
			}
		}
	}
}

// R3: nothing of a call is kept, of a refused one neither.
func TestNothingIsKept(t *testing.T) {
	old, blocks := chainOf(5, 1000)
	for range 3 {
		holdSteps(t, state(0), []api.Io{wr(2, 1)}, 2, 3, 4)
		holdSteps(t, state(0), nil, 2, 3, 4)
		stepsRefused(t, state(2), []api.Io{wr(2, 1)}, 2, 3, 4, api.ErrImage)
		stepsRefused(t, state(1), []api.Io{wr(2, 1), fl()}, 2, 3, 4, api.ErrArg)
		holdSteps(t, state(1), []api.Io{wr(3, 1), wr(2, 7)}, 0, 0, 0)
		holdRecords(t, old, blocks, 3, newFirst(), true, span(2, 12))
		recordsRefused(t, old, blocks, 5, newFirst(), true, span(2, 6), api.ErrSpace)
		recordsRefused(t, old, blocks, 6, newFirst(), true, span(2, 12), api.ErrArg)
		holdRecords(t, old, blocks, 5, newFirst(), false, span(2, 12))
		holdRecords(t, nil, nil, 0, newFirst(), true, span(2, 12))
	}
}
