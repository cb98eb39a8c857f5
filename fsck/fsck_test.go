package fsck

import (
	"bytes"
	"encoding/binary"
	"hash/crc32"
	"math"
	"slices"
	"strconv"
	"testing"

	"woodcut/alloc"
	"woodcut/api"
	"woodcut/build"
	"woodcut/commit"
	"woodcut/dev"
	"woodcut/open"
	"woodcut/tree"
	"woodcut/walk"
)

var table = crc32.MakeTable(crc32.Castagnoli)

// sealed answers b, filled up with zeros to 60 bytes, with their sum behind, worked out by other means than the program's.
func sealed(b []byte) []byte {
	ahead := make([]byte, 60)
	copy(ahead, b)
	return binary.LittleEndian.AppendUint32(ahead, crc32.Checksum(ahead, table))
}

// words answers b with these numbers behind, four bytes each.
func words(b []byte, l ...int) []byte {
	for _, n := range l {
		b = binary.LittleEndian.AppendUint32(b, uint32(n))
	}
	return b
}

// superBlock, nodeBlock and recordBlock answer the block of these numbers, right ones or not.
func superBlock(s api.Super) []byte {
	b := binary.LittleEndian.AppendUint64([]byte("WCUT"), uint64(s.Gen))
	return sealed(words(b, s.Blocks, s.Root, s.Size, s.First))
}

func nodeBlock(level int, ptr ...int) []byte {
	var all [8]int
	copy(all[:], ptr)
	return sealed(words(words([]byte("NODE"), level), all[:]...))
}

func recordBlock(r api.Record) []byte {
	b := words([]byte("SNAP"), r.Next)
	b = binary.LittleEndian.AppendUint64(b, uint64(r.Id))
	b = binary.LittleEndian.AppendUint64(b, uint64(r.Parent))
	return sealed(words(b, r.Root, r.Size, r.Kind, r.Frames, r.Digest))
}

// device answers one of so many blocks, all zeros.
func device(blocks int) []byte {
	return make([]byte, blocks*64)
}

// set lays b into block at of img.
func set(img []byte, at int, b []byte) {
	copy(img[at*64:(at+1)*64], b)
}

func setNode(img []byte, at, level int, ptr ...int) {
	set(img, at, nodeBlock(level, ptr...))
}

func setRecord(img []byte, at int, r api.Record) {
	set(img, at, recordBlock(r))
}

// setSuper lays s into a slot of img, with as many Blocks as img has.
func setSuper(img []byte, slot int, s api.Super) {
	s.Blocks = len(img) / 64
	set(img, slot, superBlock(s))
}

// fill lays bytes that are nothing into blocks of img.
func fill(img []byte, l ...int) {
	for _, at := range l {
		set(img, at, bytes.Repeat([]byte{byte(at) | 1}, 64))
	}
}

// alone answers eight pointers, all 0 but the one at place i.
func alone(i, at int) []int {
	ptr := make([]int, 8)
	ptr[i] = at
	return ptr
}

// oneSector lays a tree of one sector: its nodes of level 2, 1 and 0 into these blocks, and leads to the block at.
func oneSector(img []byte, top, middle, low, sector, at int) {
	setNode(img, top, 2, alone(sector/64, middle)...)
	setNode(img, middle, 1, alone(sector%64/8, low)...)
	setNode(img, low, 0, alone(sector%8, at)...)
}

// span answers the numbers from one on, below another.
func span(from, to int) []int {
	var l []int
	for n := from; n < to; n++ {
		l = append(l, n)
	}
	return l
}

// small is made of its superblock, its records and their blocks, and the nodes' blocks of its three trees by their roots.
func smallSuper() api.Super {
	return api.Super{Gen: 7, Blocks: 32, Root: 2, Size: 100, First: 10}
}

func smallRecords() []api.Record {
	return []api.Record{
		{Next: 12, Id: 40, Parent: 30, Root: 15, Size: 12, Kind: api.Pending, Frames: 9, Digest: 1<<32 - 1},
		{Next: 11, Id: 30, Parent: 20, Root: 2, Size: 512},
		{Next: 31, Id: 20, Root: 17, Size: 65},
		{Id: 1<<62 - 1, Parent: 20},
	}
}

func smallPlaces() []int {
	return []int{10, 12, 11, 31}
}

func smallTrees() map[int][]int {
	return map[int][]int{2: {2, 3, 4, 5, 6, 7}, 15: {15, 16, 5, 18}, 17: {17, 3, 5, 6, 19, 8}}
}

// small answers an image of 32 blocks: a head of 100 sectors, a receive that stands open, three snapshots. The second record has the head's tree, the first and the third share nodes with it, the last one has none. Blocks 9, 13, 14 and 27 to 30 are zeros that nothing leads to, block 26 is lost.
func small() []byte {
	img := device(32)
	setSuper(img, 1, smallSuper())
	for i, r := range smallRecords() {
		setRecord(img, smallPlaces()[i], r)
	}
	setNode(img, 2, 2, 3, 4)
	setNode(img, 3, 1, 5, 6)
	setNode(img, 4, 1, 0, 0, 0, 0, 7)
	setNode(img, 5, 0, 20, 21)
	setNode(img, 6, 0, 0, 22)
	setNode(img, 7, 0, 0, 0, 0, 23)
	setNode(img, 15, 2, 16)
	setNode(img, 16, 1, 5, 18)
	setNode(img, 18, 0, 0, 21, 0, 24)
	setNode(img, 17, 2, 3, 19)
	setNode(img, 19, 1, 8)
	setNode(img, 8, 0, 25)
	fill(img, span(20, 27)...)
	return img
}

// owned answers small with one tree put to root and size: the head's (-1), or a record's.
func owned(owner, root, size int) []byte {
	img := small()
	if owner < 0 {
		s := smallSuper()
		s.Root, s.Size = root, size
		setSuper(img, 1, s)
	} else {
		r := smallRecords()[owner]
		r.Root, r.Size = root, size
		setRecord(img, smallPlaces()[owner], r)
	}
	return img
}

// chain answers n records of Kind Whole, one behind the other, on blocks that neither rise nor fall.
func chain(n int) (l []api.Record, places []int) {
	for i := range n {
		places = append(places, 6+i*37%89)
	}
	for i := range n {
		r := api.Record{Id: 100 - i}
		if i+1 < n {
			r.Next = places[i+1]
		}
		l = append(l, r)
	}
	return l, places
}

// chained answers an image of 100 blocks with these records on these places, the first of them the image's first one.
func chained(l []api.Record, places []int) []byte {
	img := device(100)
	setSuper(img, 0, api.Super{Gen: 3, First: places[0]})
	for i, r := range l {
		setRecord(img, places[i], r)
	}
	return img
}

// holdSound holds all that is told of an image without a fault, whose lost blocks are these.
func holdSound(t *testing.T, name string, img []byte, lost ...int) {
	t.Helper()
	if l := Check(img); len(l) != 0 || !Sound(img) {
		t.Errorf("%s: Check: %v, Sound: %t, want none", name, l, Sound(img))
	}
	if l, e := Lost(img); !slices.Equal(l, lost) || e != api.OK {
		t.Errorf("%s: Lost: %v, %d, want %v", name, l, e, lost)
	}
}

// holdFault holds all that is told of an image with a fault.
func holdFault(t *testing.T, name string, img []byte, block int, why api.Errno) {
	t.Helper()
	if l := Check(img); !slices.Equal(l, []api.Fault{{Block: block, Why: why}}) || Sound(img) {
		t.Errorf("%s: Check: %v, Sound: %t, want %d, %d", name, l, Sound(img), block, why)
	}
	if l, e := Lost(img); len(l) != 0 || e != why {
		t.Errorf("%s: Lost: %v, %d, want %d", name, l, e, why)
	}
}

// P16.1: the chapter's example.
func TestNewOfEight(t *testing.T) {
	img, e := open.New(8)
	if e != api.OK {
		t.Fatalf("New(8): %d", e)
	}
	holdSound(t, "New(8)", img)
}

// P16.1: new images of every size.
func TestNewImages(t *testing.T) {
	for n := 4; n <= 4096; n++ {
		img, e := open.New(n)
		if e != api.OK || len(img) != n*64 {
			t.Fatalf("New(%d): %d bytes, %d", n, len(img), e)
		}
		holdSound(t, "New("+strconv.Itoa(n)+")", img)
	}
}

// P16.1: images with some sectors written, without records.
func TestHeadsAlone(t *testing.T) {
	for _, sector := range []int{0, 1, 7, 8, 63, 64, 75, 256, 511} {
		img := device(8)
		oneSector(img, 2, 5, 3, sector, 7)
		fill(img, 7)
		for _, size := range []int{sector + 1, 512} {
			setSuper(img, 0, api.Super{Gen: 1 << 40, Root: 2, Size: size})
			holdSound(t, "sector "+strconv.Itoa(sector), img)
		}
	}
	// A head with a size, and no block.
	img := device(4)
	setSuper(img, 1, api.Super{Gen: 1, Size: 512})
	holdSound(t, "no blocks", img)
}

// P16.1: images with one record, of each kind.
func TestOneRecord(t *testing.T) {
	for _, r := range []api.Record{
		{Id: 1},
		{Id: 1<<62 - 1, Parent: 1},
		{Id: 1, Parent: 1<<62 - 1, Size: 512},
		{Id: 9, Root: 4, Size: 76},
		{Id: 9, Kind: api.Pending, Frames: 1},
		{Id: 9, Parent: 8, Root: 4, Size: 512, Kind: api.Pending, Frames: 65535, Digest: 1<<32 - 1},
	} {
		for _, at := range []int{2, 3, 8, 15} {
			img := device(16)
			oneSector(img, 4, 5, 6, 75, 7)
			fill(img, 7)
			setRecord(img, at, r)
			setSuper(img, 1, api.Super{Gen: 3, First: at})
			lost := []int{4, 5, 6, 7}
			if r.Root != 0 {
				lost = nil
			}
			holdSound(t, "a record in block "+strconv.Itoa(at), img, lost...)
		}
	}
}

// P16.1: an image with a head and several records, a Pending one ahead.
func TestSmall(t *testing.T) {
	img := small()
	holdSound(t, "small", img, 26)
	// Records that are left out, with all that they alone lead to, are lost.
	for _, x := range []struct {
		first int
		lost  []int
	}{{12, []int{10, 15, 16, 18, 24, 26}}, {11, []int{10, 12, 15, 16, 18, 24, 26}}, {31, []int{8, 10, 11, 12, 15, 16, 17, 18, 19, 24, 25, 26}}, {0, []int{8, 10, 11, 12, 15, 16, 17, 18, 19, 24, 25, 26, 31}}} {
		s := smallSuper()
		s.First = x.first
		setSuper(img, 1, s)
		holdSound(t, "the first record "+strconv.Itoa(x.first), img, x.lost...)
	}
	// Without a head, what no record has is lost.
	holdSound(t, "no head", owned(-1, 0, 0), 26)
	holdSound(t, "no second tree", owned(1, 0, 0), 26)
	s := smallSuper()
	s.Root = 0
	img = owned(1, 0, 0)
	setSuper(img, 1, s)
	holdSound(t, "no tree of root 2", img, 2, 4, 7, 23, 26)
}

// P16.1: as many records of Kind Whole as may be, with a Pending one ahead, and one too many: that one's block is told, whatever stands behind.
func TestManyRecords(t *testing.T) {
	for _, n := range []int{1, 2, 30, 59, 60, 61, 62, 63, 80} {
		l, places := chain(n)
		pending := api.Record{Next: places[0], Id: 1000, Kind: api.Pending, Frames: 1}
		for _, ahead := range []bool{false, true} {
			img := chained(l, places)
			name := strconv.Itoa(n) + " records"
			if ahead {
				setRecord(img, 99, pending)
				setSuper(img, 0, api.Super{Gen: 3, First: 99})
				name += " behind a pending one"
			}
			if n <= 60 {
				holdSound(t, name, img)
				continue
			}
			holdFault(t, name, img, places[60], api.ErrRecord)
			// From a later one on they are few enough.
			setSuper(img, 0, api.Super{Gen: 3, First: places[n-60]})
			want := slices.Clone(places[:n-60])
			if ahead {
				want = append(want, 99)
			}
			slices.Sort(want)
			holdSound(t, name, img, want...)
		}
	}
}

// P16.1: the greatest image, with as many records as may be, all with trees of all sectors, and faults of its last tree.
func TestGreatestImage(t *testing.T) {
	img := device(4096)
	rising := func(from, step int) []int {
		var l []int
		for i := range 8 {
			l = append(l, from+step*i)
		}
		return l
	}
	// All roots share the nodes of level 1 from 100 on, those of level 0 from 200 on, the sectors from 3584 on.
	for i := range 8 {
		setNode(img, 100+i, 1, rising(200+8*i, 1)...)
	}
	for i := range 64 {
		setNode(img, 200+i, 0, rising(3584+8*i, 1)...)
	}
	setSuper(img, 1, api.Super{Gen: 1 << 40, Root: 1000, Size: 512, First: 2000})
	setNode(img, 1000, 2, rising(100, 1)...)
	last := api.Record{}
	for i := range 61 {
		last = api.Record{Next: 2001 + i, Id: 100 - i, Root: 1001 + i, Size: 512}
		if i == 0 {
			last.Kind, last.Frames = api.Pending, 65535
		}
		if i == 60 {
			last.Next = 0
		}
		setNode(img, last.Root, 2, rising(107, -1)...)
		setRecord(img, 2000+i, last)
	}
	holdSound(t, "the greatest image", img)
	fill(img, 2, 99, 1999, 2061, 3583)
	holdSound(t, "with blocks that are lost", img, 2, 99, 1999, 2061, 3583)
	small := last
	small.Size = 511
	setRecord(img, 2060, small)
	holdFault(t, "a size of 511", img, 1061, api.ErrTree)
	setRecord(img, 2060, last)
	setNode(img, 1061, 2, 100, 101, 3000)
	setNode(img, 3000, 1, 3001)
	for _, at := range []int{1030, 1000, 2060, 2000, 107, 263} {
		setNode(img, 3001, 0, 0, 0, at)
		holdFault(t, "a sector in block "+strconv.Itoa(at), img, at, api.ErrTree)
	}
	setNode(img, 3001, 0, 0, 0, 100)
	holdFault(t, "a sector in a node of its own tree", img, 1061, api.ErrTree)
	setNode(img, 3001, 0, 0, 0, 4095)
	holdSound(t, "nodes of its own", img, 2, 99, 1999, 2061, 3583)
}

// P16.1: a device that dev.Check refuses, whatever it holds: block 0 is told.
func TestRefusedDevices(t *testing.T) {
	whole := device(4098)
	copy(whole, small())
	for _, size := range []int{0, 1, 63, 64, 65, 128, 191, 192, 255, 257, 32*64 - 1, 32*64 + 1, 32*64 + 32, 4096*64 - 1, 4096*64 + 1, 4097 * 64, 4098 * 64} {
		holdFault(t, "a device of another size", whole[:size], 0, api.ErrLen)
		holdFault(t, "zeros of another size", make([]byte, size), 0, api.ErrLen)
		other := slices.Clone(whole[:size])
		if size >= 64 {
			set(other, 0, superBlock(api.Super{Gen: 9, Blocks: size / 64}))
		}
		holdFault(t, "an image of another size", other, 0, api.ErrLen)
	}
	holdFault(t, "nil", nil, 0, api.ErrLen)
	holdFault(t, "no bytes", []byte{}, 0, api.ErrLen)
}

// P16.1: an image without a superblock that is picked: block 0 is told, whichever slot is near to one.
func TestNoSuperblock(t *testing.T) {
	good := superBlock(smallSuper())
	changed := func(at int, c byte) []byte {
		out := slices.Clone(good)
		out[at] = c
		return out
	}
	with := func(change func(s *api.Super)) []byte {
		s := smallSuper()
		change(&s)
		return superBlock(s)
	}
	wrong := [][]byte{
		make([]byte, 64), bytes.Repeat([]byte{0xFF}, 64), changed(0, 'w'), changed(63, good[63]^1), changed(4, 10), sealed(changed(28, 1)[:60]), sealed(changed(59, 1)[:60]),
		nodeBlock(2, 3), recordBlock(api.Record{Id: 1}),
		with(func(s *api.Super) { s.Gen = 0 }), with(func(s *api.Super) { s.Gen = 1<<40 + 1 }),
		with(func(s *api.Super) { s.Blocks = 31 }), with(func(s *api.Super) { s.Blocks = 33 }), with(func(s *api.Super) { s.Blocks = 4096 }),
		with(func(s *api.Super) { s.Root = 32 }), with(func(s *api.Super) { s.Root = 1 }), with(func(s *api.Super) { s.First = 32 }), with(func(s *api.Super) { s.First = 1 }), with(func(s *api.Super) { s.Size = 513 }),
	}
	for i, a := range wrong {
		for k, b := range wrong {
			img := small()
			set(img, 0, a)
			set(img, 1, b)
			holdFault(t, "slots "+strconv.Itoa(i)+" and "+strconv.Itoa(k), img, 0, api.ErrImage)
		}
		// One right superblock is enough, in each slot.
		img := small()
		set(img, 0, a)
		holdSound(t, "slot 0 "+strconv.Itoa(i), img, 26)
		set(img, 1, a)
		set(img, 0, good)
		holdSound(t, "slot 1 "+strconv.Itoa(i), img, 26)
	}
	for _, n := range []int{4, 5, 4095, 4096} {
		holdFault(t, "zeros", device(n), 0, api.ErrImage)
	}
	img := small()
	copy(img[27*64:], good)
	set(img, 1, make([]byte, 64))
	holdFault(t, "a superblock in another block", img, 0, api.ErrImage)
}

// P16.1: the superblock that is picked is the one whose image is told of: the other slot is no way out, and is not looked at.
func TestTheOtherSlot(t *testing.T) {
	for _, x := range []struct {
		s     api.Super
		block int
		why   api.Errno
	}{
		{api.Super{Root: 3, Size: 100}, 3, api.ErrTree}, {api.Super{Root: 2, Size: 99}, 2, api.ErrTree}, {api.Super{Root: 26, Size: 100, First: 10}, 26, api.ErrTree}, {api.Super{First: 2}, 2, api.ErrRecord}, {api.Super{First: 26}, 26, api.ErrRecord},
	} {
		img := small()
		for _, gen := range []int{8, 7} {
			x.s.Gen = gen
			setSuper(img, 0, x.s)
			holdFault(t, "a Gen of "+strconv.Itoa(gen), img, x.block, x.why)
		}
		x.s.Gen = 6
		setSuper(img, 0, x.s)
		holdSound(t, "the lesser Gen", img, 26)
	}
}

// noRecords are blocks that do not parse as a record, though most are nearly r's.
func noRecords(r api.Record) [][]byte {
	good := recordBlock(r)
	changed := func(place int, c byte) []byte {
		out := slices.Clone(good)
		out[place] = c
		return out
	}
	with := func(change func(r *api.Record)) []byte {
		out := r
		change(&out)
		return recordBlock(out)
	}
	return [][]byte{
		make([]byte, 64), bytes.Repeat([]byte{0xFF}, 64), sealed(nil),
		nodeBlock(0, 2), nodeBlock(2, 3), superBlock(smallSuper()),
		sealed(append([]byte("snap"), good[4:60]...)), sealed(append([]byte("NODE"), good[4:60]...)),
		changed(63, good[63]^1), changed(8, good[8]^1), changed(59, 1), sealed(changed(48, 1)[:60]), sealed(changed(59, 1)[:60]),
		with(func(r *api.Record) { r.Id = 0 }),
		with(func(r *api.Record) { r.Id = 1 << 62 }),
		with(func(r *api.Record) { r.Id = -1 }),
		with(func(r *api.Record) { r.Parent = r.Id }),
		with(func(r *api.Record) { r.Parent = 1 << 62 }),
		with(func(r *api.Record) { r.Size = 513 }),
		with(func(r *api.Record) { r.Root = 1 }),
		with(func(r *api.Record) { r.Root = 4096 }),
		with(func(r *api.Record) { r.Next = 1 }),
		with(func(r *api.Record) { r.Next = 4096 }),
		with(func(r *api.Record) { r.Kind = 2 }),
		with(func(r *api.Record) { r.Kind, r.Frames = api.Pending, 0 }),
		with(func(r *api.Record) { r.Kind, r.Frames = api.Pending, 65536 }),
		with(func(r *api.Record) { r.Kind, r.Frames = api.Whole, 1 }),
		with(func(r *api.Record) { r.Kind, r.Digest = api.Whole, 1 }),
	}
}

// P16.1: a block that does not parse as a record: the first, one in the middle, the last, the only one.
func TestBlocksThatAreNoRecords(t *testing.T) {
	for i, r := range smallRecords() {
		for k, b := range noRecords(r) {
			img := small()
			set(img, smallPlaces()[i], b)
			holdFault(t, "block "+strconv.Itoa(k)+" at record "+strconv.Itoa(i), img, smallPlaces()[i], api.ErrRecord)
		}
	}
	for _, n := range []int{1, 2, 3, 60} {
		for i := range n {
			l, places := chain(n)
			for k, b := range noRecords(l[i]) {
				img := chained(l, places)
				set(img, places[i], b)
				holdFault(t, "block "+strconv.Itoa(k)+" at record "+strconv.Itoa(i)+" of "+strconv.Itoa(n), img, places[i], api.ErrRecord)
			}
		}
	}
}

// P16.1: a Next beyond the device is told as it stands; so is one to a block that is something else.
func TestNextsThatLeadNowhere(t *testing.T) {
	for i, r := range smallRecords() {
		for _, next := range []int{32, 33, 255, 256, 4094, 4095, 2, 5, 15, 20, 26, 9, 30} {
			img := small()
			r.Next = next
			setRecord(img, smallPlaces()[i], r)
			holdFault(t, "record "+strconv.Itoa(i)+" leads to "+strconv.Itoa(next), img, next, api.ErrRecord)
		}
	}
	for _, first := range []int{2, 3, 8, 9, 15, 20, 26, 30} {
		img, s := small(), smallSuper()
		s.First = first
		setSuper(img, 1, s)
		holdFault(t, "the first record "+strconv.Itoa(first), img, first, api.ErrRecord)
	}
	// A right record behind the last block is none of the device's.
	img := small()
	r := smallRecords()[3]
	r.Next = 32
	setRecord(img, 31, r)
	img = append(img, recordBlock(api.Record{Id: 3})...)
	holdFault(t, "a record in the room behind", img[:32*64], 32, api.ErrRecord)
}

// P16.1: a record that stands twice: one leads to itself, to one ahead of it, each to each.
func TestRecordsThatStandTwice(t *testing.T) {
	for n := 1; n <= 6; n++ {
		for from := range n {
			for to := range from + 1 {
				l, places := chain(n)
				l[from].Next = places[to]
				name := strconv.Itoa(n) + " records, " + strconv.Itoa(from) + " to " + strconv.Itoa(to)
				holdFault(t, name, chained(l, places), places[to], api.ErrRecord)
				l[0].Kind, l[0].Frames = api.Pending, 1
				holdFault(t, name+", the first one pending", chained(l, places), places[to], api.ErrRecord)
			}
		}
	}
	// The last of as many as may be leads to the first, to itself.
	for _, to := range []int{0, 30, 59} {
		l, places := chain(60)
		l[59].Next = places[to]
		holdFault(t, "the last one leads to "+strconv.Itoa(to), chained(l, places), places[to], api.ErrRecord)
	}
}

// P16.1: a record whose Id stands twice: the second one of each two is told.
func TestIdsThatStandTwice(t *testing.T) {
	for _, n := range []int{2, 3, 6, 60} {
		for _, a := range []int{0, 1, 2, n - 2} {
			for _, b := range []int{a + 1, a + 2, n - 1} {
				if a >= n || b >= n || b <= a {
					continue
				}
				l, places := chain(n)
				l[b].Id = l[a].Id
				l[b].Parent, l[b].Size = 999, 3
				name := strconv.Itoa(n) + " records, " + strconv.Itoa(a) + " and " + strconv.Itoa(b)
				holdFault(t, name, chained(l, places), places[b], api.ErrRecord)
				l[0].Kind, l[0].Frames = api.Pending, 1
				holdFault(t, name+", the first one pending", chained(l, places), places[b], api.ErrRecord)
				// Ids that are one but for their upper half are two.
				l[b].Id += 1 << 32
				holdSound(t, name+", ids of eight bytes", chained(l, places))
			}
		}
	}
}

// P16.1: a record that is Pending and not the first: the second, one in the middle, the last, behind a Pending one or a Whole one.
func TestPendingRecords(t *testing.T) {
	for _, n := range []int{1, 2, 3, 6, 60, 61} {
		for at := range n {
			l, places := chain(n)
			l[at].Kind, l[at].Frames, l[at].Digest = api.Pending, 3, 4
			name := strconv.Itoa(n) + " records, pending at " + strconv.Itoa(at)
			if at == 0 {
				holdSound(t, name, chained(l, places))
				continue
			}
			holdFault(t, name, chained(l, places), places[at], api.ErrRecord)
			l[0].Kind, l[0].Frames = api.Pending, 1
			holdFault(t, name+" and 0", chained(l, places), places[at], api.ErrRecord)
		}
	}
}

// wrong is a fault of the i-th record: it is put to l, and answers what is told if it is the first one met.
type wrong struct {
	name string
	put  func(l []api.Record, places []int, i int) (told int)
	// spoilt: the record's block does not parse.
	spoilt bool
}

func wrongs() []wrong {
	return []wrong{
		{"does not parse", func(l []api.Record, places []int, i int) int { return places[i] }, true},
		{"stands twice", func(l []api.Record, places []int, i int) int { l[i-1].Next = places[(i-1)/2]; return places[(i-1)/2] }, false},
		{"has an Id that stands twice", func(l []api.Record, places []int, i int) int { l[i].Id = l[i/2].Id; return places[i] }, false},
		{"is pending", func(l []api.Record, places []int, i int) int {
			l[i].Kind, l[i].Frames = api.Pending, 2
			return places[i]
		}, false},
		{"lies beyond the device", func(l []api.Record, places []int, i int) int { l[i-1].Next = 100 + i; return 100 + i }, false},
	}
}

// P16.1: where two records are wrong, the one that is met first is told.
func TestWhichRecordOfTwo(t *testing.T) {
	for _, n := range []int{3, 4, 7, 62} {
		for _, i := range []int{1, 2, n / 2, n - 2} {
			for _, k := range []int{i + 1, n - 1} {
				if i >= k || k >= n {
					continue
				}
				for _, a := range wrongs() {
					for _, b := range wrongs() {
						l, places := chain(n)
						b.put(l, places, k)
						told := a.put(l, places, i)
						img := chained(l, places)
						for place, x := range map[int]wrong{i: a, k: b} {
							if x.spoilt {
								img[places[place]*64+50] ^= 1
							}
						}
						holdFault(t, strconv.Itoa(i)+" "+a.name+", "+strconv.Itoa(k)+" "+b.name, img, told, api.ErrRecord)
					}
				}
			}
		}
	}
	// One too many, and one behind it or ahead of it that does not parse.
	for _, x := range []struct{ at, told int }{{61, 60}, {60, 60}, {59, 59}, {0, 0}, {30, 30}} {
		l, places := chain(62)
		img := chained(l, places)
		img[places[x.at]*64+9] ^= 1
		holdFault(t, "62 records, "+strconv.Itoa(x.at)+" does not parse", img, places[x.told], api.ErrRecord)
	}
}

// noNodes are blocks that are no node of that level on a device of 32 blocks.
func noNodes(level int) [][]byte {
	good := nodeBlock(level, 5)
	flipped := func(at int) []byte {
		out := slices.Clone(good)
		out[at] ^= 1
		return out
	}
	return [][]byte{
		make([]byte, 64), bytes.Repeat([]byte{0xFF}, 64), sealed(nil), sealed(append([]byte("node"), good[4:60]...)),
		flipped(0), flipped(8), flipped(40), flipped(63),
		nodeBlock(level), nodeBlock(3, 5), nodeBlock(1<<32-1, 5), nodeBlock((level+1)%3, 5), nodeBlock((level+2)%3, 5),
		nodeBlock(level, 1), nodeBlock(level, 32), nodeBlock(level, 33), nodeBlock(level, 4095), nodeBlock(level, 4096), nodeBlock(level, 1<<32-1),
		recordBlock(api.Record{Id: 5}), superBlock(smallSuper()), sealed(append(slices.Clone(good[:59]), 1)), sealed(append(slices.Clone(good[:40]), 1)),
	}
}

// spoilings are what makes the tree of the nodes 9, 13 and 14, with the sector's block 26, none: each way that layer 10 names.
func spoilings() map[string]func(img []byte) {
	all := map[string]func(img []byte){
		"the root at level 2 again":              func(img []byte) { setNode(img, 9, 2, 9) },
		"another root below the root":            func(img []byte) { setNode(img, 9, 2, 13, 2) },
		"a node of level 0 below level 2":        func(img []byte) { setNode(img, 9, 2, 13, 7) },
		"a sector's block below level 2":         func(img []byte) { setNode(img, 9, 2, 13, 20) },
		"zeros below level 2":                    func(img []byte) { setNode(img, 9, 2, 0, 0, 0, 0, 0, 0, 13, 28) },
		"a record below level 2":                 func(img []byte) { setNode(img, 9, 2, 13, 10) },
		"a node of level 1 below level 1":        func(img []byte) { setNode(img, 13, 1, 14, 4) },
		"level 1 leads to itself":                func(img []byte) { setNode(img, 13, 1, 14, 13) },
		"level 1 leads to the root":              func(img []byte) { setNode(img, 13, 1, 14, 9) },
		"a sector's block below level 1":         func(img []byte) { setNode(img, 13, 1, 14, 26) },
		"zeros below level 1":                    func(img []byte) { setNode(img, 13, 1, 14, 0, 0, 0, 0, 0, 0, 28) },
		"a record below level 1":                 func(img []byte) { setNode(img, 13, 1, 14, 31) },
		"a node of level 1 met twice":            func(img []byte) { setNode(img, 9, 2, 13, 13) },
		"a node of level 0 met twice by one":     func(img []byte) { setNode(img, 13, 1, 14, 0, 0, 0, 0, 0, 0, 14) },
		"a node of level 0 met twice by two":     func(img []byte) { setNode(img, 9, 2, 13, 27); setNode(img, 27, 1, 14) },
		"another tree's node of level 1 twice":   func(img []byte) { setNode(img, 9, 2, 4, 0, 4) },
		"another tree's node of level 0 twice":   func(img []byte) { setNode(img, 9, 2, 3, 13); setNode(img, 13, 1, 6) },
		"the root as a sector's block":           func(img []byte) { setNode(img, 14, 0, 26, 9) },
		"a node of level 1 as a sector's block":  func(img []byte) { setNode(img, 14, 0, 26, 13) },
		"a node of level 0 as a sector's block":  func(img []byte) { setNode(img, 14, 0, 14, 26) },
		"another node of it as a sector's block": func(img []byte) { setNode(img, 13, 1, 14, 27); setNode(img, 14, 0, 27); setNode(img, 27, 0, 26) },
	}
	for level, at := range []int{14, 13, 9} {
		for i, b := range noNodes(level) {
			all["node "+strconv.Itoa(at)+" is block "+strconv.Itoa(i)] = func(img []byte) { set(img, at, b) }
		}
		for i := range 8 {
			for _, beyond := range []int{32, 33, 4095} {
				all["pointer "+strconv.Itoa(i)+" of "+strconv.Itoa(at)+" leads to "+strconv.Itoa(beyond)] = func(img []byte) {
					ptr := [3][]int{{26, 26}, {14}, {13}}[level]
					l := append(ptr, make([]int, 8)...)
					l[i] = beyond
					setNode(img, at, level, l[:8]...)
				}
			}
		}
	}
	return all
}

// P16.1: a tree that is none, in each way: the head's, the first record's, later ones'. Its root is told.
func TestTreesThatAreNone(t *testing.T) {
	for owner := -1; owner < 4; owner++ {
		name := "the tree of " + strconv.Itoa(owner)
		img := owned(owner, 9, 512)
		oneSector(img, 9, 13, 14, 0, 26)
		if !Sound(img) {
			t.Fatalf("%s: %v", name, Check(img))
		}
		for how, spoil := range spoilings() {
			img := owned(owner, 9, 512)
			oneSector(img, 9, 13, 14, 0, 26)
			spoil(img)
			holdFault(t, name+": "+how, img, 9, api.ErrTree)
		}
	}
}

// P16.1: a root that is no tree's, wherever it leads.
func TestRootsThatAreNone(t *testing.T) {
	for owner := -1; owner < 4; owner++ {
		for root := 2; root < 32; root++ {
			if slices.Contains([]int{2, 15, 17}, root) {
				continue
			}
			holdFault(t, "root "+strconv.Itoa(root)+" of "+strconv.Itoa(owner), owned(owner, root, 512), root, api.ErrTree)
		}
		// A superblock with a root beyond its device is none; a record with one is.
		for _, root := range []int{32, 33, 256, 4094, 4095} {
			block, why := root, api.ErrTree
			if owner < 0 {
				block, why = 0, api.ErrImage
			}
			holdFault(t, "root "+strconv.Itoa(root)+" of "+strconv.Itoa(owner), owned(owner, root, 512), block, why)
		}
	}
}

// P16.1: a tree with a block from its Size on, at each edge; the head's, each record's.
func TestSizes(t *testing.T) {
	for _, sector := range []int{0, 1, 7, 8, 9, 63, 64, 65, 127, 255, 256, 510, 511} {
		for owner := -1; owner < 4; owner++ {
			for _, size := range []int{0, 1, sector - 1, sector, sector + 1, sector + 2, 8, 64, 511, 512} {
				if size < 0 || size > 512 {
					continue
				}
				img := owned(owner, 9, size)
				oneSector(img, 9, 13, 14, sector, 26)
				name := "sector " + strconv.Itoa(sector) + ", size " + strconv.Itoa(size) + ", owner " + strconv.Itoa(owner)
				if size <= sector {
					holdFault(t, name, img, 9, api.ErrTree)
				} else if l := Check(img); len(l) != 0 || !Sound(img) {
					t.Errorf("%s: %v", name, l)
				}
			}
		}
	}
}

// P16.1: one root of several trees is told where one Size of them is too small.
func TestSizesOfOneRoot(t *testing.T) {
	// The last sector of each root that has a block.
	for root, last := range map[int]int{2: 99, 15: 11, 17: 64} {
		for owner := -1; owner < 4; owner++ {
			for _, size := range []int{0, 1, last - 1, last} {
				holdFault(t, "root "+strconv.Itoa(root)+" of "+strconv.Itoa(owner), owned(owner, root, size), root, api.ErrTree)
			}
			if img := owned(owner, root, last+1); !Sound(img) {
				t.Errorf("root %d of %d: %v", root, owner, Check(img))
			}
		}
	}
}

// P16.1: where two trees are none, the head's is told ahead of the records', and these as they stand one behind the other, whatever their roots are.
func TestWhichTreeOfTwo(t *testing.T) {
	roots := []int{30, 13, 29, 9, 27}
	for a := range roots {
		for b := a + 1; b < len(roots); b++ {
			img := small()
			s, l := smallSuper(), smallRecords()
			for _, k := range []int{a, b} {
				if k == 0 {
					s.Root = roots[k]
				} else {
					l[k-1].Root = roots[k]
				}
			}
			setSuper(img, 1, s)
			for i, r := range l {
				setRecord(img, smallPlaces()[i], r)
			}
			holdFault(t, "trees "+strconv.Itoa(a)+" and "+strconv.Itoa(b), img, roots[a], api.ErrTree)
			// So where the first one has but a block from its Size on, or the second one.
			for _, k := range []int{a, b} {
				img := slices.Clone(img)
				oneSector(img, roots[k], 14, 28, 511, 26)
				if k == 0 {
					s.Size = 511
					setSuper(img, 1, s)
				} else {
					r := l[k-1]
					r.Size = 511
					setRecord(img, smallPlaces()[k-1], r)
				}
				holdFault(t, "a Size of "+strconv.Itoa(k), img, roots[a], api.ErrTree)
			}
		}
	}
}

// P16.1: a node of several trees that is none: the root of the first of these is told.
func TestNodesOfSeveralTrees(t *testing.T) {
	for at := 2; at < 20; at++ {
		for owner := -1; owner < 4; owner++ {
			img := owned(owner, 0, 512)
			set(img, at, make([]byte, 64))
			roots := []int{2, 15, 2, 17, 0}
			roots[owner+1] = 0
			if slices.Contains(smallPlaces(), at) {
				holdFault(t, "no record", img, at, api.ErrRecord)
				continue
			}
			i := slices.IndexFunc(roots, func(root int) bool { return slices.Contains(smallTrees()[root], at) })
			if i >= 0 {
				holdFault(t, "node "+strconv.Itoa(at)+" without the tree of "+strconv.Itoa(owner), img, roots[i], api.ErrTree)
			} else if !Sound(img) {
				t.Errorf("node %d without the tree of %d: %v", at, owner, Check(img))
			}
		}
	}
}

// P16.1: each tree of small with one more sector, in each block: in a node of a tree that has it that tree's root is told, in another one's node or a record that block.
func TestSectorsInEachBlock(t *testing.T) {
	for _, x := range []struct {
		name  string
		roots []int
		put   func(img []byte, at int)
	}{
		{"the head, and a record", []int{2}, func(img []byte, at int) { setNode(img, 7, 0, at, 0, 0, 23) }},
		{"all trees", []int{2, 15, 17}, func(img []byte, at int) { setNode(img, 5, 0, 20, 21, 0, 0, 0, 0, 0, at) }},
		{"the pending record", []int{15}, func(img []byte, at int) { setNode(img, 18, 0, at, 21, 0, 24) }},
		{"a whole record", []int{17}, func(img []byte, at int) {
			setNode(img, 8, 0, 25)
			setNode(img, 19, 1, 0, 0, 0, 0, 0, 0, 0, 27)
			setNode(img, 27, 0, at)
		}},
		{"the head and a whole one", []int{2, 17}, func(img []byte, at int) { setNode(img, 6, 0, at, 22) }},
		{"twice, the pending record", []int{15}, func(img []byte, at int) { setNode(img, 18, 0, at, at, 0, 24, 21) }},
	} {
		for at := 2; at < 32; at++ {
			img := small()
			l := smallRecords()
			l[0].Size, l[2].Size = 512, 512
			for i, r := range l {
				setRecord(img, smallPlaces()[i], r)
			}
			nodes := smallTrees()
			if x.name == "a whole record" {
				nodes[17] = []int{17, 3, 5, 6, 19, 27}
			}
			x.put(img, at)
			holdOneMore(t, x.name+": block "+strconv.Itoa(at), img, x.roots, nodes, at)
		}
	}
}

// holdOneMore holds what is told of img, whose trees of these roots have one more sector, in block at.
func holdOneMore(t *testing.T, name string, img []byte, roots []int, nodes map[int][]int, at int) {
	t.Helper()
	for _, root := range roots {
		if slices.Contains(nodes[root], at) {
			holdFault(t, name, img, root, api.ErrTree)
			return
		}
	}
	for _, l := range nodes {
		if slices.Contains(l, at) {
			holdFault(t, name, img, at, api.ErrTree)
			return
		}
	}
	if slices.Contains(smallPlaces(), at) {
		holdFault(t, name, img, at, api.ErrTree)
	} else if l := Check(img); len(l) != 0 || !Sound(img) {
		t.Errorf("%s: %v", name, l)
	}
}

// P16.1: a node, of each level and of each tree, whose block is another tree's sector's.
func TestNodesThatAreSectors(t *testing.T) {
	for at := 20; at <= 25; at++ {
		for level := range 3 {
			// The last record has no tree of its own in small, so all sectors stay reached.
			nodes := [3]int{9, 13, 14}
			nodes[level] = at
			img := owned(3, nodes[2], 512)
			oneSector(img, nodes[2], nodes[1], nodes[0], 511, 26)
			holdFault(t, "level "+strconv.Itoa(level)+" in block "+strconv.Itoa(at), img, at, api.ErrTree)
		}
	}
	for owner := -1; owner < 4; owner++ {
		for level := range 3 {
			nodes := [3]int{9, 13, 14}
			nodes[level] = 20
			img := owned(owner, nodes[2], 512)
			oneSector(img, nodes[2], nodes[1], nodes[0], 511, 26)
			holdFault(t, "level "+strconv.Itoa(level)+" of "+strconv.Itoa(owner), img, 20, api.ErrTree)
		}
	}
}

// P16.1: a record whose block is a sector's: of the head, of a record, of its own tree.
func TestRecordsThatAreSectors(t *testing.T) {
	for i, r := range smallRecords() {
		for at := 20; at <= 26; at++ {
			img := small()
			if i == 0 {
				s := smallSuper()
				s.First = at
				setSuper(img, 1, s)
			} else {
				ahead := smallRecords()[i-1]
				ahead.Next = at
				setRecord(img, smallPlaces()[i-1], ahead)
			}
			setRecord(img, at, r)
			name := "record " + strconv.Itoa(i) + " in block " + strconv.Itoa(at)
			if at == 26 {
				holdSound(t, name, img, smallPlaces()[i])
			} else {
				holdFault(t, name, img, at, api.ErrTree)
			}
		}
	}
}

// P16.1: a record whose block is to be a node, and a node's that is to be a record: no block parses as both, so the one that does not parse is told.
func TestRecordsAndNodes(t *testing.T) {
	for _, at := range smallPlaces() {
		for owner := -1; owner < 4; owner++ {
			holdFault(t, "a record as a root", owned(owner, at, 512), at, api.ErrTree)
			img := owned(owner, 9, 512)
			setNode(img, 9, 2, at)
			holdFault(t, "a record as a node of level 1", img, 9, api.ErrTree)
			oneSector(img, 9, 13, at, 8, 26)
			setRecord(img, at, smallRecords()[slices.Index(smallPlaces(), at)])
			if owner >= 0 && smallPlaces()[owner] == at {
				r := smallRecords()[owner]
				r.Root, r.Size = 9, 512
				setRecord(img, at, r)
			}
			holdFault(t, "a record as a node of level 0", img, 9, api.ErrTree)
		}
	}
	for root, nodes := range smallTrees() {
		for _, at := range nodes {
			img, s := small(), smallSuper()
			s.First = at
			setSuper(img, 1, s)
			holdFault(t, "a node as the first record", img, at, api.ErrRecord)
			for i, r := range smallRecords() {
				img := small()
				r.Next = at
				setRecord(img, smallPlaces()[i], r)
				holdFault(t, "a node as the next record", img, at, api.ErrRecord)
			}
			// A record laid over a node is one, but the tree is none any more.
			img = small()
			last := smallRecords()[3]
			last.Next = at
			setRecord(img, 31, last)
			setRecord(img, at, api.Record{Id: 77})
			told := 2
			if !slices.Contains(smallTrees()[2], at) {
				told = root
			}
			if at == 5 {
				told = 2
			}
			holdFault(t, "a record over node "+strconv.Itoa(at), img, told, api.ErrTree)
		}
	}
}

// ends answers an image whose block x is a sector's and a node of that level (of another tree), or (level 3) a record; y likewise, if it is not 0.
func ends(blocks, x, level, y, other int) []byte {
	img := device(blocks)
	// The head's tree leads to both.
	setNode(img, 4, 2, 5)
	setNode(img, 5, 1, 6)
	setNode(img, 6, 0, x, y)
	nodes := [4]int{7, 8, 9, 10}
	nodes[level] = x
	if y != 0 {
		nodes[other] = y
	}
	oneSector(img, nodes[2], nodes[1], nodes[0], 511, 11)
	setRecord(img, nodes[3], api.Record{Id: 3, Root: nodes[2], Size: 512})
	setSuper(img, 1, api.Super{Gen: 1, Root: 4, Size: 512, First: nodes[3]})
	return img
}

// P16.1: a block that is both a node, a record, and something else: at the first place, at the last one, between them.
func TestBothAtTheEnds(t *testing.T) {
	for _, blocks := range []int{15, 16, 100, 4095, 4096} {
		for level := range 4 {
			for _, x := range []int{2, 3, 12, blocks - 2, blocks - 1} {
				holdFault(t, "block "+strconv.Itoa(x)+" as "+strconv.Itoa(level), ends(blocks, x, level, 0, 0), x, api.ErrTree)
			}
		}
	}
}

// P16.1: each sector's block counts: of the head's tree where a record and its nodes stand, of that record's where the head's nodes and it itself stand.
func TestBothByEachSector(t *testing.T) {
	for sector := range 512 {
		both := func(ofHead, ofRecord int) []byte {
			img := device(16)
			oneSector(img, 4, 5, 6, sector, ofHead)
			oneSector(img, 14, 15, 10, sector, ofRecord)
			setRecord(img, 3, api.Record{Id: 3, Root: 14, Size: 512})
			setSuper(img, 1, api.Super{Gen: 1, Root: 4, Size: 512, First: 3})
			return img
		}
		name := "sector " + strconv.Itoa(sector)
		for _, at := range []int{3, 10, 14, 15} {
			holdFault(t, name+" of the head in block "+strconv.Itoa(at), both(at, 11), at, api.ErrTree)
		}
		for _, at := range []int{3, 4, 5, 6} {
			holdFault(t, name+" of the record in block "+strconv.Itoa(at), both(11, at), at, api.ErrTree)
		}
	}
}

// P16.1: where two blocks are both, the first one, rising, is told.
func TestWhichBlockOfTwo(t *testing.T) {
	for level := range 4 {
		for other := range 4 {
			for _, x := range []int{2, 3, 12, 13, 15} {
				for _, y := range []int{2, 3, 12, 13, 15} {
					if x == y || level == other {
						continue
					}
					holdFault(t, "blocks "+strconv.Itoa(x)+" and "+strconv.Itoa(y), ends(16, x, level, y, other), min(x, y), api.ErrTree)
				}
			}
		}
	}
	// Many blocks of other trees are the head's sectors.
	img := owned(-1, 2, 512)
	setNode(img, 7, 0, 31, 19, 18, 17, 16, 15, 12, 10)
	setNode(img, 8, 0, 25)
	holdFault(t, "eight blocks", img, 10, api.ErrTree)
	setNode(img, 7, 0, 31, 19, 18, 17, 16, 15, 8, 12)
	holdFault(t, "eight blocks", img, 8, api.ErrTree)
	setNode(img, 7, 0, 19, 31)
	holdFault(t, "two blocks", img, 19, api.ErrTree)
	// A root that is none comes ahead of a lesser block that is both.
	setNode(img, 17, 2, 3, 19, 30)
	holdFault(t, "a tree that is none", img, 17, api.ErrTree)
}

// P16.1: blocks that are one thing in several trees, and sectors' blocks of any bytes, are no fault.
func TestSharing(t *testing.T) {
	for owner := range 4 {
		for name, put := range map[string]func(img []byte){
			"nodes of level 1":              func(img []byte) { setNode(img, 9, 2, 3, 4) },
			"these, at other places":        func(img []byte) { setNode(img, 9, 2, 0, 4, 0, 0, 3) },
			"a node of level 0, at another": func(img []byte) { setNode(img, 9, 2, 13); setNode(img, 13, 1, 7, 0, 0, 0, 0, 0, 0, 5) },
			"sectors' blocks": func(img []byte) {
				oneSector(img, 9, 13, 14, 0, 0)
				setNode(img, 14, 0, 25, 24, 23, 22, 21, 20, 22, 22)
			},
		} {
			img := owned(owner, 9, 512)
			put(img)
			if l := Check(img); len(l) != 0 || !Sound(img) {
				t.Errorf("%s of %d: %v", name, owner, l)
			}
		}
	}
	for _, b := range [][]byte{make([]byte, 64), bytes.Repeat([]byte{0xFF}, 64), superBlock(api.Super{Gen: 1 << 40, Blocks: 32}), recordBlock(api.Record{Id: 40}), recordBlock(smallRecords()[0]), nodeBlock(0, 2), nodeBlock(2, 3, 4), nodeBlock(2, 32)} {
		img := small()
		for at := 20; at <= 25; at++ {
			set(img, at, b)
		}
		holdSound(t, "any bytes", img, 26)
	}
}

// P16.1: which fault is told, where two or three would do.
func TestOrderOfErrors(t *testing.T) {
	noSuper := func(img []byte) { img[64+5] ^= 1 }
	noRecord := func(img []byte) { img[31*64+9] ^= 1 }
	noHead := func(img []byte) { img[4*64+9] ^= 1 }
	noTree := func(img []byte) { img[15*64+9] ^= 1 }
	both := func(img []byte) { setNode(img, 18, 0, 8, 21, 0, 24) }
	for k, x := range []struct {
		faults []func(img []byte)
		block  int
		why    api.Errno
	}{
		{[]func(img []byte){noSuper, noRecord, noHead, noTree, both}, 0, api.ErrImage},
		{[]func(img []byte){noSuper, noRecord}, 0, api.ErrImage},
		{[]func(img []byte){noSuper, noHead}, 0, api.ErrImage},
		{[]func(img []byte){noSuper, both}, 0, api.ErrImage},
		{[]func(img []byte){noRecord, noHead, noTree, both}, 31, api.ErrRecord},
		{[]func(img []byte){noRecord, noHead}, 31, api.ErrRecord},
		{[]func(img []byte){noRecord, noTree}, 31, api.ErrRecord},
		{[]func(img []byte){noRecord, both}, 31, api.ErrRecord},
		{[]func(img []byte){noHead, noTree, both}, 2, api.ErrTree},
		{[]func(img []byte){noHead, both}, 2, api.ErrTree},
		{[]func(img []byte){noTree, both}, 15, api.ErrTree},
		{[]func(img []byte){noTree}, 15, api.ErrTree},
		{[]func(img []byte){both}, 8, api.ErrTree},
	} {
		img := small()
		for _, put := range x.faults {
			put(img)
		}
		name := "faults " + strconv.Itoa(k)
		holdFault(t, name, img, x.block, x.why)
		holdFault(t, name+" of a device that is none", img[:len(img)-1], 0, api.ErrLen)
		holdFault(t, name+" of a device that is none", append(img, 0), 0, api.ErrLen)
	}
}

// P16.1: Lost: none, one, many of the blocks that nothing leads to, each choice of these.
func TestLost(t *testing.T) {
	loose := []int{9, 13, 14, 26, 27, 28, 29, 30}
	for some := range 1 << len(loose) {
		img := small()
		var lost []int
		for i, at := range loose {
			set(img, at, make([]byte, 64))
			if some>>i&1 == 1 {
				fill(img, at)
				lost = append(lost, at)
			}
		}
		holdSound(t, "the choice "+strconv.Itoa(some), img, lost...)
	}
}

// P16.1: Lost: one byte of a block that is not zero is enough, at each place of it; the blocks beside it are not lost by it.
func TestLostBytes(t *testing.T) {
	for _, blocks := range []int{4, 5, 8, 4096} {
		for _, at := range []int{2, 3, blocks - 2, blocks - 1} {
			for place := range 64 {
				for _, c := range []byte{1, 0x20, 0x80, 0xFF} {
					img := device(blocks)
					setSuper(img, 0, api.Super{Gen: 1})
					img[at*64+place] = c
					holdSound(t, "byte "+strconv.Itoa(place)+" of block "+strconv.Itoa(at), img, at)
				}
				if blocks == 4096 && place == 1 {
					break
				}
			}
			img := device(blocks)
			setSuper(img, 0, api.Super{Gen: 1})
			img[at*64], img[at*64+63] = 1, 255
			holdSound(t, "both ends of block "+strconv.Itoa(at), img, at)
		}
	}
}

// P16.1: Lost: a block that is reached is not lost, zeros or not; the slots are reached.
func TestReachedIsNotLost(t *testing.T) {
	for at := 20; at <= 25; at++ {
		img := small()
		set(img, at, make([]byte, 64))
		holdSound(t, "zeros in block "+strconv.Itoa(at), img, 26)
	}
	img := small()
	for at := 20; at <= 26; at++ {
		set(img, at, make([]byte, 64))
	}
	holdSound(t, "zeros in all sectors", img)
	for _, b := range [][]byte{bytes.Repeat([]byte{0xFF}, 64), superBlock(api.Super{Gen: 6, Blocks: 32}), nodeBlock(0, 2), append(make([]byte, 63), 1)} {
		set(img, 0, b)
		holdSound(t, "something in the other slot", img)
	}
	// What a superblock leads to that is not picked is lost.
	img = device(16)
	oneSector(img, 3, 4, 5, 0, 6)
	setRecord(img, 2, api.Record{Id: 1})
	fill(img, 6)
	setSuper(img, 0, api.Super{Gen: 4, Root: 3, Size: 1, First: 2})
	holdSound(t, "the older state", img)
	setSuper(img, 1, api.Super{Gen: 5, Root: 3, Size: 1})
	holdSound(t, "the newer state", img, 2)
	setSuper(img, 1, api.Super{Gen: 5, First: 2})
	holdSound(t, "the newer state", img, 3, 4, 5, 6)
	setSuper(img, 1, api.Super{Gen: 5})
	holdSound(t, "the newer state", img, 2, 3, 4, 5, 6)
}

// P16.1: Lost: all blocks but the slots, of each size.
func TestAllIsLost(t *testing.T) {
	for _, blocks := range []int{4, 5, 8, 63, 64, 65, 1000, 4095, 4096} {
		img := bytes.Repeat([]byte{7}, blocks*64)
		setSuper(img, 1, api.Super{Gen: 1, Size: 3})
		holdSound(t, strconv.Itoa(blocks)+" blocks", img, span(2, blocks)...)
	}
}

// T4: every length of an image that is cut off.
func TestCutImages(t *testing.T) {
	img := small()
	for size := range len(img) {
		why := api.ErrLen
		if size%64 == 0 && size >= 256 {
			why = api.ErrImage
		}
		holdFault(t, "cut off at "+strconv.Itoa(size), img[:size], 0, why)
	}
}

// The model: what is to be told, by other means than the program's.

func word(b []byte, at int) int {
	return int(binary.LittleEndian.Uint32(b[at:]))
}

// long answers a number of eight bytes, -1 for one that is above every id.
func long(b []byte, at int) int {
	if n := binary.LittleEndian.Uint64(b[at:]); n < 1<<62 {
		return int(n)
	}
	return -1
}

// modelBlock answers the bytes of a block, and whether it begins with magic, has its sum, and zeros from a place on.
func modelBlock(img []byte, at int, magic string, zeros int) ([]byte, bool) {
	b := img[at*64 : at*64+64]
	return b, string(b[:4]) == magic && bytes.Equal(b, sealed(b[:60])) && bytes.Equal(b[zeros:60], make([]byte, 60-zeros))
}

func modelSuper(img []byte, slot int) (api.Super, bool) {
	b, ok := modelBlock(img, slot, "WCUT", 28)
	s := api.Super{Gen: long(b, 4), Blocks: word(b, 12), Root: word(b, 16), Size: word(b, 20), First: word(b, 24)}
	lead := func(at int) bool { return at != 1 && at < s.Blocks }
	return s, ok && s.Gen >= 1 && s.Gen <= 1<<40 && s.Blocks == len(img)/64 && s.Size <= 512 && lead(s.Root) && lead(s.First)
}

func modelRecord(img []byte, at int) (api.Record, bool) {
	b, ok := modelBlock(img, at, "SNAP", 44)
	r := api.Record{Next: word(b, 4), Id: long(b, 8), Parent: long(b, 16), Root: word(b, 24), Size: word(b, 28), Kind: word(b, 32), Frames: word(b, 36), Digest: word(b, 40)}
	lead := func(at int) bool { return at != 1 && at < 4096 }
	kind := r.Kind == 0 && r.Frames == 0 && r.Digest == 0 || r.Kind == 1 && r.Frames >= 1 && r.Frames <= 65535
	return r, ok && lead(r.Next) && lead(r.Root) && r.Id >= 1 && r.Parent >= 0 && r.Parent != r.Id && r.Size <= 512 && kind
}

func modelNode(img []byte, at int) (level int, ptr [8]int, ok bool) {
	b, ok := modelBlock(img, at, "NODE", 40)
	some := false
	for i := range ptr {
		ptr[i] = word(b, 8+4*i)
		ok = ok && ptr[i] != 1 && ptr[i] < 4096
		some = some || ptr[i] != 0
	}
	return word(b, 4), ptr, ok && some && word(b, 4) <= 2
}

// modelTree answers which blocks are nodes and which are sectors' blocks, going from the root to each sector on its own.
func modelTree(img []byte, root, size int) (nodes, sectors map[int]int, ok bool) {
	blocks := len(img) / 64
	// ways are those on which a node is met: two of one block make it none.
	ways := map[int][2]int{}
	nodes, sectors = map[int]int{}, map[int]int{}
	for s := range 512 {
		at := root
		for level := 2; level >= 0 && at != 0; level-- {
			below := []int{1, 8, 64}[level]
			way := [2]int{level, s / (below * 8)}
			if at < 2 || at >= blocks {
				return nil, nil, false
			}
			if w, met := ways[at]; met && w != way {
				return nil, nil, false
			}
			ways[at] = way
			l, ptr, ok := modelNode(img, at)
			if !ok || l != level {
				return nil, nil, false
			}
			nodes[at]++
			at = ptr[s/below%8]
		}
		if at >= blocks || at != 0 && s >= size {
			return nil, nil, false
		}
		if at != 0 {
			sectors[at]++
		}
	}
	for at := range sectors {
		if nodes[at] > 0 {
			return nil, nil, false
		}
	}
	return nodes, sectors, true
}

// Kinds of what the model tells, so that a test can ask for enough of each.
const (
	tellsNone = iota
	tellsImage
	tellsNoParse
	tellsTwice
	tellsId
	tellsPending
	tellsMany
	tellsHead
	tellsRoot
	tellsBoth
	tellsKinds
)

// modelRecords answers the records from first on, their blocks, and what is told of the first that is wrong.
func modelRecords(img []byte, first int) (l []api.Record, places []int, kind, bad int) {
	ids := map[int]int{}
	whole := 0
	for at := first; at != 0; {
		if at >= len(img)/64 {
			return nil, nil, tellsNoParse, at
		}
		r, ok := modelRecord(img, at)
		whole += 1 - r.Kind
		ids[r.Id]++
		switch {
		case !ok:
			return nil, nil, tellsNoParse, at
		case slices.Contains(places, at):
			return nil, nil, tellsTwice, at
		case ids[r.Id] > 1:
			return nil, nil, tellsId, at
		case len(l) > 0 && r.Kind == 1:
			return nil, nil, tellsPending, at
		case whole > 60:
			return nil, nil, tellsMany, at
		}
		l, places = append(l, r), append(places, at)
		at = r.Next
	}
	return l, places, tellsNone, 0
}

// modelCheck answers what is to be told of a right device, of which kind that is, and the blocks that are reached, if nothing is told.
func modelCheck(img []byte) (faults []api.Fault, kind int, reached map[int]int) {
	a, okA := modelSuper(img, 0)
	b, okB := modelSuper(img, 1)
	if !okA && !okB {
		return []api.Fault{{Why: api.ErrImage}}, tellsImage, nil
	}
	s := a
	if !okA || okB && b.Gen > a.Gen {
		s = b
	}
	l, places, kind, bad := modelRecords(img, s.First)
	if kind != tellsNone {
		return []api.Fault{{Block: bad, Why: api.ErrRecord}}, kind, nil
	}
	// Of each block a bit for each thing that it is.
	things := map[int]int{0: 8, 1: 8}
	for _, at := range places {
		things[at] |= 1
	}
	for i, x := range append([]api.Record{{Root: s.Root, Size: s.Size}}, l...) {
		nodes, sectors, ok := modelTree(img, x.Root, x.Size)
		if !ok {
			return []api.Fault{{Block: x.Root, Why: api.ErrTree}}, tellsHead + min(i, 1), nil
		}
		for at := range nodes {
			things[at] |= 2
		}
		for at := range sectors {
			things[at] |= 4
		}
	}
	for at := range len(img) / 64 {
		if n := things[at]; n != 0 && n != 1 && n != 2 && n != 4 && n != 8 {
			return []api.Fault{{Block: at, Why: api.ErrTree}}, tellsBoth, nil
		}
	}
	return nil, tellsNone, things
}

// modelLost answers the blocks that are not reached and have a byte that is not zero.
func modelLost(img []byte, reached map[int]int) (lost []int) {
	for at := range len(img) / 64 {
		if reached[at] == 0 && string(img[at*64:at*64+64]) != string(make([]byte, 64)) {
			lost = append(lost, at)
		}
	}
	return lost
}

// holdModel holds all that is told of a right device against the model, and answers of which kind it is.
func holdModel(t *testing.T, name string, img []byte) int {
	t.Helper()
	faults, kind, reached := modelCheck(img)
	if len(faults) > 0 {
		holdFault(t, name, img, faults[0].Block, faults[0].Why)
	} else {
		holdSound(t, name, img, modelLost(img, reached)...)
	}
	return kind
}

// T4: each bit of an image, changed.
func TestEveryBit(t *testing.T) {
	img := small()
	for at := range len(img) {
		told, why := toldOfSpoilt(at / 64)
		for bit := range 8 {
			name := "byte " + strconv.Itoa(at) + ", bit " + strconv.Itoa(bit)
			img[at] ^= 1 << bit
			if why != api.OK {
				holdFault(t, name, img, told, why)
			} else if lost, e := Lost(img); len(Check(img)) != 0 || !slices.Equal(lost, lostBeside(at/64)) || e != api.OK {
				t.Errorf("%s: %v, %v, %d", name, Check(img), lost, e)
			}
			img[at] ^= 1 << bit
		}
	}
}

// toldOfSpoilt answers what is told of small with a block that does not parse.
func toldOfSpoilt(block int) (told int, why api.Errno) {
	if block == 1 {
		return 0, api.ErrImage
	}
	if slices.Contains(smallPlaces(), block) {
		return block, api.ErrRecord
	}
	for _, root := range []int{2, 15, 17} {
		if slices.Contains(smallTrees()[root], block) {
			return root, api.ErrTree
		}
	}
	return 0, api.OK
}

// lostBeside answers what is lost of small with something in a block.
func lostBeside(block int) []int {
	if !slices.Contains([]int{9, 13, 14, 27, 28, 29, 30}, block) {
		return []int{26}
	}
	l := []int{26, block}
	slices.Sort(l)
	return l
}

// dice answers numbers below n, the same ones in each run.
func dice() func(n int) int {
	x := uint64(88172645463325252)
	return func(n int) int {
		x ^= x << 13
		x ^= x >> 7
		x ^= x << 17
		return int(x >> 33 % uint64(n))
	}
}

// thrown answers an image whose blocks are mostly of a right kind each: blocks of each kind lead to ones of the kind that they ask, but for some throws.
func thrown(roll func(n int) int) []byte {
	blocks := 20 + roll(20)
	img := device(blocks)
	// Which blocks are of which kind: nodes of level 0, 1 and 2, sectors, records.
	kinds := make([][]int, 5)
	for at := 2; at < blocks; at++ {
		k := []int{0, 0, 1, 2, 3, 3, 4}[roll(7)]
		kinds[k] = append(kinds[k], at)
		if k == 3 && roll(2) == 0 {
			fill(img, at)
		}
	}
	of := func(k int) int {
		if roll(120) == 0 || len(kinds[k]) == 0 {
			return roll(blocks + 2)
		}
		return kinds[k][roll(len(kinds[k]))]
	}
	maybe := func(k int) int {
		if roll(3) == 0 {
			return 0
		}
		return of(k)
	}
	size := func() int { return []int{512, 512, 512, 512, 64, 128, 400, roll(513)}[roll(8)] }
	for level := range 3 {
		for _, at := range kinds[level] {
			var ptr [8]int
			for range 1 + roll(2) {
				ptr[roll(8)] = of([]int{3, 0, 1}[level])
			}
			setNode(img, at, level, ptr[:]...)
		}
	}
	throwRecords(roll, img, kinds[4], func() api.Record { return api.Record{Id: 1 + roll(60), Root: maybe(2), Size: size()} })
	for slot := range 2 {
		if roll(4) > 0 {
			s := api.Super{Gen: 1 + roll(4), Root: maybe(2), Size: size()}
			if len(kinds[4]) > 0 && roll(3) > 0 {
				s.First = kinds[4][0]
			}
			setSuper(img, slot, s)
		}
	}
	if roll(10) == 0 {
		img[roll(len(img))] ^= 1
	}
	return img
}

// throwRecords lays records into these blocks, mostly each with one behind it as its Next, so that most ways end.
func throwRecords(roll func(n int) int, img []byte, places []int, one func() api.Record) {
	for i, at := range places {
		r := one()
		if i+1 < len(places) && roll(4) > 0 {
			r.Next = places[i+1]
		} else if roll(10) == 0 {
			r.Next = roll(len(img)/64 + 2)
		} else if roll(10) == 0 {
			r.Next = places[roll(len(places))]
		}
		if i == 0 && roll(3) == 0 || roll(30) == 0 {
			r.Kind, r.Frames, r.Digest = api.Pending, 1+roll(9), roll(9)
		}
		if r.Next == 1 {
			r.Next = 0
		}
		setRecord(img, at, r)
	}
}

// T4: images whose blocks are thrown, held against the model.
func TestThrownImages(t *testing.T) {
	roll := dice()
	met := make([]int, tellsKinds)
	for k := range 15000 {
		met[holdModel(t, "thrown image "+strconv.Itoa(k), thrown(roll))]++
		if t.Failed() {
			t.Fatal("no more is thrown")
		}
	}
	for kind, least := range []int{500, 500, 300, 100, 100, 100, 0, 500, 500, 0} {
		if met[kind] < least {
			t.Errorf("only %d images of kind %d were thrown", met[kind], kind)
		}
	}
}

// T4: trees whose sectors' blocks are thrown, held against the model.
func TestThrownSectors(t *testing.T) {
	roll := dice()
	met := make([]int, tellsKinds)
	for k := range 3000 {
		img := owned(-1, 2, 512)
		for i, r := range smallRecords() {
			r.Size = 512
			setRecord(img, smallPlaces()[i], r)
		}
		for range 1 + roll(3) {
			at := []int{5, 6, 7, 8, 18}[roll(5)]
			setNode(img, at, 0, 20, 2+roll(30), 2+roll(30))
		}
		met[holdModel(t, "thrown sectors "+strconv.Itoa(k), img)]++
	}
	for _, kind := range []int{tellsNone, tellsHead, tellsRoot, tellsBoth} {
		if met[kind] < 300 {
			t.Errorf("only %d images of kind %d were thrown", met[kind], kind)
		}
	}
}

// T4: long ways of records that are thrown, held against the model.
func TestThrownRecords(t *testing.T) {
	roll := dice()
	met := make([]int, tellsKinds)
	for k := range 1500 {
		l, places := chain(50 + roll(25))
		img := chained(l, places)
		for range roll(3) {
			i := roll(len(l))
			r := l[i]
			switch roll(5) {
			case 0:
				r.Next = places[roll(len(l))]
			case 1:
				r.Id = l[roll(len(l))].Id
			case 2:
				r.Kind, r.Frames = api.Pending, 1
			case 3:
				r.Next = 2 + roll(110)
			default:
				r.Size = 513
			}
			setRecord(img, places[i], r)
		}
		met[holdModel(t, "thrown records "+strconv.Itoa(k), img)]++
	}
	for _, kind := range []int{tellsNone, tellsNoParse, tellsTwice, tellsId, tellsPending, tellsMany} {
		if met[kind] < 50 {
			t.Errorf("only %d images of kind %d were thrown", met[kind], kind)
		}
	}
}

// T4: bytes that are thrown.
func TestThrownBytes(t *testing.T) {
	roll := dice()
	for range 300 {
		img := device(4 + roll(60))
		for at := range img {
			img[at] = byte(roll(256))
		}
		for at := range len(img) / 64 {
			copy(img[at*64:], []string{"WCUT", "SNAP", "NODE", ""}[roll(4)])
		}
		holdFault(t, "thrown bytes", img, 0, api.ErrImage)
		holdFault(t, "thrown bytes", img[:roll(256)], 0, api.ErrLen)
		// With a right superblock: what it leads to is none.
		at := 2 + roll(len(img)/64-2)
		setSuper(img, 0, api.Super{Gen: 1, First: at, Root: 2})
		holdFault(t, "thrown bytes behind a superblock", img, at, api.ErrRecord)
		setSuper(img, 0, api.Super{Gen: 1, Root: at, Size: 512})
		holdFault(t, "thrown bytes behind a superblock", img, at, api.ErrTree)
		setSuper(img, 0, api.Super{Gen: 1, Size: 512})
		holdSound(t, "thrown bytes that nothing leads to", img, span(2, len(img)/64)...)
	}
}

// world is an image that operations change, and the ids of its records, the first one ahead.
type world struct {
	img []byte
	ids []int
}

// step answers the steps of a thrown operation on w, and the ids behind it; none, where no block is free.
func (w world) step(t *testing.T, roll func(n int) int, id int) ([]api.Io, []int) {
	t.Helper()
	s, e := open.Open(w.img)
	if e != api.OK {
		t.Fatalf("the image does not open: %d", e)
	}
	_, blocks, _ := open.Records(w.img, s.Super.First)
	counts, _ := walk.Counts(w.img)
	free, _ := alloc.Free(counts)
	root, first, ids := s.Super.Root, s.Super.First, w.ids
	var l []api.Io
	switch what := roll(4); {
	case what < 2:
		l, root, e = w.writes(roll, s, free)
	case what == 2 && len(s.Records) < 20:
		r := api.Record{Id: id, Root: s.Super.Root, Size: 512}
		l, first, _, e = commit.Records(s.Records, blocks, 0, r, true, free)
		ids = append([]int{id}, ids...)
	case len(s.Records) > 0:
		n := 1 + roll(len(s.Records))
		l, first, _, e = commit.Records(s.Records, blocks, n, api.Record{}, false, free)
		ids = slices.Concat(ids[:n-1], ids[n:])
	}
	if e != api.OK {
		return nil, w.ids
	}
	l, e = commit.Steps(s, l, root, 512, first)
	if e != api.OK {
		t.Fatalf("a commit is refused: %d", e)
	}
	return l, ids
}

// writes answers the writes that put some sectors of the head to new blocks, and others to none, and the new root.
func (w world) writes(roll func(n int) int, s api.State, free []int) ([]api.Io, int, api.Errno) {
	m, e := tree.Map(w.img, s.Super.Root)
	if e != api.OK {
		return nil, 0, e
	}
	var l []api.Io
	for range 1 + roll(6) {
		at := roll(512) * roll(2) / (1 + roll(30))
		m[at] = 0
		if roll(3) > 0 && len(free) > 0 {
			m[at] = free[0]
			l = append(l, api.Io{Kind: api.IoWrite, At: free[0], Data: bytes.Repeat([]byte{byte(roll(3))}, 64)})
			free = free[1:]
		}
	}
	root, nodes, _, e := build.Tree(w.img, s.Super.Root, m, free)
	return append(l, nodes...), root, e
}

// P16.2: behind each operation there is no fault, nor behind a crash on its way: what is lost is what nothing leads to.
func TestOperations(t *testing.T) {
	roll := dice()
	for _, blocks := range []int{8, 24, 60, 300} {
		img, _ := open.New(blocks)
		w := world{img: img}
		done := 0
		for k := range 250 {
			l, ids := w.step(t, roll, 1000+k)
			if len(l) == 0 {
				continue
			}
			done++
			for cut := 0; cut <= len(l); cut += 1 + roll(4) {
				keep := []bool{}
				for range len(l) {
					keep = append(keep, roll(2) == 0)
				}
				left, e := dev.Crash(w.img, l, cut, keep)
				if kind := holdModel(t, "behind a crash", left); kind != tellsNone || e != api.OK {
					t.Fatalf("%d blocks, operation %d, cut at %d: %v, %d", blocks, k, cut, Check(left), e)
				}
			}
			next, e := dev.Apply(w.img, l)
			if e != api.OK {
				t.Fatalf("steps are refused: %d", e)
			}
			w = world{img: next, ids: ids}
			if kind := holdModel(t, "behind an operation", next); kind != tellsNone {
				t.Fatalf("%d blocks, operation %d: %v", blocks, k, Check(next))
			}
			holdIds(t, next, ids)
		}
		if done < 60 {
			t.Errorf("%d blocks: only %d operations were done", blocks, done)
		}
	}
}

// holdIds holds the ids of img's records, so that the operations are what they are to be.
func holdIds(t *testing.T, img []byte, ids []int) {
	t.Helper()
	s, _ := open.Open(img)
	var got []int
	for _, r := range s.Records {
		got = append(got, r.Id)
	}
	if !slices.Equal(got, ids) {
		t.Fatalf("ids %v, want %v", got, ids)
	}
}

// P16.2: a new snapshot, a deleted one, an old head leave nothing but blocks that are lost.
func TestWhatOperationsLeave(t *testing.T) {
	img, _ := open.New(16)
	do := func(l []api.Io, e api.Errno, root, first int) {
		t.Helper()
		s, _ := open.Open(img)
		l, f := commit.Steps(s, l, root, 512, first)
		next, g := dev.Apply(img, l)
		if e != api.OK || f != api.OK || g != api.OK {
			t.Fatalf("an operation is refused: %d, %d, %d", e, f, g)
		}
		img = next
	}
	m := make([]int, 512)
	m[3] = 2
	root, l, _, e := build.Tree(img, 0, m, span(3, 16))
	do(append([]api.Io{{Kind: api.IoWrite, At: 2, Data: bytes.Repeat([]byte{9}, 64)}}, l...), e, root, 0)
	holdSound(t, "a sector", img)
	l, first, _, e := commit.Records(nil, nil, 0, api.Record{Id: 5, Root: root, Size: 512}, true, span(6, 16))
	do(l, e, root, first)
	holdSound(t, "a snapshot", img)
	do(nil, api.OK, 0, first)
	holdSound(t, "the head is empty", img)
	do(nil, api.OK, 0, 0)
	holdSound(t, "the snapshot is deleted", img, 2, 3, 4, 5, 6)
	do(nil, api.OK, root, 0)
	holdSound(t, "the head is back", img, 6)
}

// spared answers b with room behind that is full of c.
func spared(b []byte, c byte) []byte {
	return append(slices.Clone(b), bytes.Repeat([]byte{c}, 4096)...)[:len(b)]
}

// arguments are images of each kind of answer.
func arguments() [][]byte {
	both, noRecord, noTree, noSuper := small(), small(), small(), small()
	setNode(both, 18, 0, 31)
	noRecord[31*64+9] ^= 1
	noTree[15*64+9] ^= 1
	noSuper[64+9] ^= 1
	return [][]byte{small(), both, noRecord, noTree, noSuper, small()[:31*64], small()[:100], device(4), {}, nil}
}

// R2, R3, R6: no argument is changed, its spare room neither, and what lies behind a device is not read.
func TestArgumentsStay(t *testing.T) {
	for k, img := range arguments() {
		faults := Check(slices.Clip(slices.Clone(img)))
		lost, e := Lost(slices.Clip(slices.Clone(img)))
		for _, c := range []byte{0, 0xFF} {
			b := spared(img, c)
			l, ok := Check(b), Sound(b)
			got, f := Lost(b)
			if !bytes.Equal(b, img) || !bytes.Equal(b[len(b):len(b)+4096], bytes.Repeat([]byte{c}, 4096)) {
				t.Errorf("argument %d is changed", k)
			}
			if !slices.Equal(l, faults) || ok != (len(faults) == 0) || !slices.Equal(got, lost) || f != e {
				t.Errorf("the room behind argument %d is read: %v, %t, %v, %d", k, l, ok, got, f)
			}
		}
	}
	// What a short device lacks stands in its room.
	room := small()
	setSuper(room[:31*64], 1, api.Super{Gen: 7, First: 10})
	holdFault(t, "a record in the room", room[:31*64], 31, api.ErrRecord)
	setNode(room, 31, 2, 3)
	setRecord(room, 10, api.Record{Id: 3, Root: 31, Size: 512})
	holdFault(t, "a node in the room", room[:31*64], 31, api.ErrTree)
	img := append(device(4), bytes.Repeat([]byte{1}, 64)...)
	setSuper(img[:256], 0, api.Super{Gen: 1})
	holdSound(t, "a lost block in the room", img[:256])
}

// scrawl writes all over l, its spare room too.
func scrawl[T any](l []T, with T) {
	l = l[:cap(l)]
	for i := range l {
		l[i] = with
	}
}

// R2, R3: each answer is memory of its own, and nothing of a call is kept.
func TestAnswersAreNew(t *testing.T) {
	for k, img := range arguments() {
		was := slices.Clone(img)
		a, b := Check(img), Check(img)
		lost, _ := Lost(img)
		again, _ := Lost(img)
		wantFaults, wantLost := slices.Clone(b), slices.Clone(again)
		scrawl(a, api.Fault{Block: -7, Why: -7})
		scrawl(lost, -7)
		if !slices.Equal(b, wantFaults) || !slices.Equal(again, wantLost) || !bytes.Equal(img, was) {
			t.Errorf("two answers, or an answer and argument %d, share memory", k)
		}
		if l := Check(img); !slices.Equal(l, wantFaults) || Sound(img) != (len(l) == 0) {
			t.Errorf("a second call of argument %d: %v, want %v", k, l, wantFaults)
		}
		if l, _ := Lost(img); !slices.Equal(l, wantLost) {
			t.Errorf("a second call of argument %d: %v, want %v", k, l, wantLost)
		}
		scrawl(img, 0xFF)
		if !slices.Equal(b, wantFaults) || !slices.Equal(again, wantLost) {
			t.Errorf("an answer and argument %d share memory", k)
		}
	}
}

// R3: what is told hangs on the image alone, whatever was asked ahead of it.
func TestNothingIsKept(t *testing.T) {
	l := arguments()
	var want [][]api.Fault
	for _, img := range l {
		want = append(want, Check(img))
	}
	for _, step := range []int{1, 3, 7, 9} {
		for i := range 40 {
			k := i * step % len(l)
			if got := Check(l[k]); !slices.Equal(got, want[k]) {
				t.Errorf("argument %d: %v, want %v", k, got, want[k])
			}
		}
	}
	// One image that is changed between two calls.
	img := small()
	holdSound(t, "small", img, 26)
	img[10*64+9] ^= 1
	holdFault(t, "a record is spoilt", img, 10, api.ErrRecord)
	img[10*64+9] ^= 1
	fill(img, 9)
	holdSound(t, "small again", img, 9, 26)
}

// Numbers at the edges of their room do not wrap.
func TestGreatNumbers(t *testing.T) {
	img := small()
	for _, word := range []int{math.MaxUint32, math.MaxInt32, math.MaxInt32 + 1, 1 << 16, 4096} {
		for i, r := range smallRecords() {
			img := slices.Clone(img)
			r.Root = word
			setRecord(img, smallPlaces()[i], r)
			holdFault(t, "root "+strconv.Itoa(word), img, smallPlaces()[i], api.ErrRecord)
			r.Root, r.Next = 0, word
			setRecord(img, smallPlaces()[i], r)
			holdFault(t, "next "+strconv.Itoa(word), img, smallPlaces()[i], api.ErrRecord)
		}
		s := smallSuper()
		s.First = word
		img := slices.Clone(img)
		setSuper(img, 1, s)
		holdFault(t, "first "+strconv.Itoa(word), img, 0, api.ErrImage)
	}
}
