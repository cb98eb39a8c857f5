package open

import (
	"bytes"
	"encoding/binary"
	"hash/crc32"
	"math"
	"slices"
	"strconv"
	"testing"

	"woodcut/api"
)

var table = crc32.MakeTable(crc32.Castagnoli)

// sealed answers b, filled up with zeros to 60 bytes, with their sum behind, worked out by other means than the program's.
func sealed(b []byte) []byte {
	ahead := make([]byte, 60)
	copy(ahead, b)
	return binary.LittleEndian.AppendUint32(ahead, crc32.Checksum(ahead, table))
}

// words answers b with these numbers behind, four bytes each.
func words(b []byte, l ...int) []byte {
	for _, n := range l {
		b = binary.LittleEndian.AppendUint32(b, uint32(n))
	}
	return b
}

// laidSuper, laidNode and laidRecord answer the block of these numbers, right ones or not.
func laidSuper(s api.Super) []byte {
	b := binary.LittleEndian.AppendUint64([]byte("WCUT"), uint64(s.Gen))
	return sealed(words(b, s.Blocks, s.Root, s.Size, s.First))
}

func laidNode(level int, ptr ...int) []byte {
	var all [8]int
	copy(all[:], ptr)
	return sealed(words(words([]byte("NODE"), level), all[:]...))
}

func laidRecord(r api.Record) []byte {
	b := words([]byte("SNAP"), r.Next)
	b = binary.LittleEndian.AppendUint64(b, uint64(r.Id))
	b = binary.LittleEndian.AppendUint64(b, uint64(r.Parent))
	return sealed(words(b, r.Root, r.Size, r.Kind, r.Frames, r.Digest))
}

// device answers one of so many blocks, all zeros.
func device(blocks int) []byte {
	return make([]byte, blocks*64)
}

// set lays b into block at of img.
func set(img []byte, at int, b []byte) {
	copy(img[at*64:(at+1)*64], b)
}

func setNode(img []byte, at, level int, ptr ...int) {
	set(img, at, laidNode(level, ptr...))
}

func setRecord(img []byte, at int, r api.Record) {
	set(img, at, laidRecord(r))
}

// setSuper lays s into a slot of img, with as many Blocks as img has.
func setSuper(img []byte, slot int, s api.Super) {
	s.Blocks = len(img) / 64
	set(img, slot, laidSuper(s))
}

// alone answers eight pointers, all 0 but the one at place i.
func alone(i, at int) []int {
	ptr := make([]int, 8)
	ptr[i] = at
	return ptr
}

// oneSector lays a tree of one sector, whose root is block at, with its other nodes and its sector's block behind that.
func oneSector(img []byte, at, sector int) {
	setNode(img, at, 2, alone(sector/64, at+1)...)
	setNode(img, at+1, 1, alone(sector%64/8, at+2)...)
	setNode(img, at+2, 0, alone(sector%8, at+3)...)
}

// smallSuper, smallRecords, smallPlaces and smallNodes are what small is made of: its superblock, its records and their blocks, the nodes' blocks of all its trees.
func smallSuper() api.Super {
	return api.Super{Gen: 7, Blocks: 28, Root: 2, Size: 100, First: 10}
}

func smallRecords() []api.Record {
	return []api.Record{
		{Next: 12, Id: 40, Parent: 30, Root: 15, Size: 12, Kind: api.Pending, Frames: 9, Digest: 1<<32 - 1},
		{Next: 11, Id: 30, Parent: 20, Root: 2, Size: 512},
		{Next: 27, Id: 20, Root: 17, Size: 65},
		{Id: 1<<62 - 1, Parent: 20},
	}
}

func smallPlaces() []int {
	return []int{10, 12, 11, 27}
}

func smallNodes() []int {
	return []int{2, 3, 4, 5, 6, 7, 8, 15, 16, 17, 18, 19}
}

// small answers an image of 28 blocks: a head of 100 sectors, a receive that stands open, three snapshots. The second record has the head's tree, the first and the third share nodes with it, the last one has none.
func small() []byte {
	img := device(28)
	setSuper(img, 1, smallSuper())
	for i, r := range smallRecords() {
		setRecord(img, smallPlaces()[i], r)
	}
	setNode(img, 2, 2, 3, 4)
	setNode(img, 3, 1, 5, 6)
	setNode(img, 4, 1, 0, 0, 0, 0, 7)
	setNode(img, 5, 0, 20, 21)
	setNode(img, 6, 0, 0, 22)
	setNode(img, 7, 0, 0, 0, 0, 23)
	setNode(img, 15, 2, 16)
	setNode(img, 16, 1, 5, 18)
	setNode(img, 18, 0, 0, 21, 0, 24)
	setNode(img, 17, 2, 3, 19)
	setNode(img, 19, 1, 8)
	setNode(img, 8, 0, 25)
	for at := 20; at <= 26; at++ {
		set(img, at, bytes.Repeat([]byte{byte(at)}, 64))
	}
	return img
}

func smallState() api.State {
	return api.State{Super: smallSuper(), Slot: 1, Records: smallRecords()}
}

// chain lays n records of Kind Whole into img, from block at on, each one's Next behind it.
func chain(img []byte, at, n int) (l []api.Record, places []int) {
	for i := range n {
		r := api.Record{Next: at + i + 1, Id: i + 1}
		if i == n-1 {
			r.Next = 0
		}
		setRecord(img, at+i, r)
		l, places = append(l, r), append(places, at+i)
	}
	return l, places
}

func equal(a, b api.State) bool {
	return a.Super == b.Super && a.Slot == b.Slot && slices.Equal(a.Records, b.Records)
}

func holdOpen(t *testing.T, name string, img []byte, want api.State, e api.Errno) {
	t.Helper()
	if s, f := Open(img); !equal(s, want) || f != e {
		t.Errorf("%s: Open: %v, %d, want %v, %d", name, s, f, want, e)
	}
}

func holdRefused(t *testing.T, name string, img []byte, e api.Errno) {
	t.Helper()
	holdOpen(t, name, img, api.State{}, e)
}

func holdRecords(t *testing.T, name string, img []byte, first int, l []api.Record, places []int, e api.Errno) {
	t.Helper()
	if got, at, f := Records(img, first); !slices.Equal(got, l) || !slices.Equal(at, places) || f != e {
		t.Errorf("%s: Records from %d on: %v, %v, %d, want %v, %v, %d", name, first, got, at, f, l, places, e)
	}
}

// holdFirst holds what Records answers from first on, and Open of img with a head without blocks and that First, against each other and an error.
func holdFirst(t *testing.T, name string, img []byte, first int, l []api.Record, places []int, e api.Errno) {
	t.Helper()
	holdRecords(t, name, img, first, l, places, e)
	img = slices.Clone(img)
	set(img, 0, make([]byte, 64))
	s := api.Super{Gen: 3, Blocks: len(img) / 64, First: first}
	setSuper(img, 1, s)
	if first != 0 && (first < 2 || first >= s.Blocks) {
		holdRefused(t, name, img, api.ErrImage)
	} else if e != api.OK {
		holdRefused(t, name, img, e)
	} else {
		holdOpen(t, name, img, api.State{Super: s, Slot: 1, Records: l}, api.OK)
	}
}

// P11.1, P11.2: the chapter's example.
func TestNewOfEight(t *testing.T) {
	img, e := New(8)
	if e != api.OK {
		t.Fatalf("New(8): %d", e)
	}
	holdOpen(t, "New(8)", img, api.State{Super: api.Super{Gen: 1, Blocks: 8}}, api.OK)
}

// P11.1: New, every byte of what it answers, and how many blocks there may be.
func TestNews(t *testing.T) {
	for _, n := range []int{4, 5, 6, 7, 8, 9, 63, 64, 65, 255, 256, 257, 1000, 4094, 4095, 4096} {
		img, e := New(n)
		b := []byte{'W', 'C', 'U', 'T', 1, 0, 0, 0, 0, 0, 0, 0, byte(n), byte(n >> 8), 0, 0}
		want := append(sealed(b), make([]byte, (n-1)*64)...)
		if e != api.OK || !bytes.Equal(img, want) {
			t.Errorf("New(%d): %d bytes, %d", n, len(img), e)
		}
	}
	for _, n := range []int{math.MinInt, -1 << 32, -1<<32 + 4, -4096, -8, -4, -1, 0, 1, 2, 3, 4097, 4098, 8192, 1<<16 + 8, 1 << 31, 1 << 32, 1<<32 + 8, 1<<58 + 8, 1 << 60, math.MaxInt} {
		if img, e := New(n); len(img) != 0 || e != api.ErrLen {
			t.Errorf("New(%d): %d bytes, %d", n, len(img), e)
		}
	}
}

// P11.2: a new image opens, and is empty.
func TestNewImagesAreEmpty(t *testing.T) {
	for n := 4; n <= 4096; n++ {
		img, e := New(n)
		if e != api.OK || len(img) != n*64 {
			t.Fatalf("New(%d): %d bytes, %d", n, len(img), e)
		}
		s, e := Open(img)
		if e != api.OK || s.Super != (api.Super{Gen: 1, Blocks: n}) || s.Slot != 0 || len(s.Records) != 0 {
			t.Errorf("New(%d): %v, %d", n, s, e)
		}
		for _, id := range []int{-1, 0, 1, 1<<62 - 1} {
			if at, ok := Find(s, id); at != 0 || ok {
				t.Errorf("New(%d): Find of %d: %d", n, id, at)
			}
		}
	}
}

// P11.1: an image with a head and no records.
func TestHeadAlone(t *testing.T) {
	img := device(8)
	oneSector(img, 2, 75)
	s := api.Super{Gen: 1 << 40, Blocks: 8, Root: 2, Size: 76}
	setSuper(img, 0, s)
	holdOpen(t, "a head", img, api.State{Super: s}, api.OK)
	holdRecords(t, "a head", img, 0, nil, nil, api.OK)
}

// P11.1: an image with one record, of each kind, and each field of it.
func TestOneRecord(t *testing.T) {
	for _, r := range []api.Record{
		{Id: 1},
		{Id: 1<<62 - 1, Parent: 1},
		{Id: 1, Parent: 1<<62 - 1, Size: 512},
		{Id: 9, Root: 4, Size: 76},
		{Id: 9, Parent: 8, Root: 4, Size: 512},
		{Id: 9, Kind: api.Pending, Frames: 1},
		{Id: 9, Parent: 8, Root: 4, Size: 76, Kind: api.Pending, Frames: 65535, Digest: 1<<32 - 1},
	} {
		for _, at := range []int{2, 3, 8, 15} {
			img := device(16)
			oneSector(img, 4, 75)
			setRecord(img, at, r)
			holdFirst(t, "one record", img, at, []api.Record{r}, []int{at}, api.OK)
		}
	}
}

// P11.1: an image with several records, a Pending one ahead of others: their order is that of their Nexts, not of their blocks or Ids.
func TestSeveralRecords(t *testing.T) {
	img, l, places := small(), smallRecords(), smallPlaces()
	holdOpen(t, "small", img, smallState(), api.OK)
	for i, first := range places {
		holdRecords(t, "small", img, first, l[i:], places[i:], api.OK)
		s := smallSuper()
		s.First = first
		setSuper(img, 1, s)
		holdOpen(t, "small", img, api.State{Super: s, Slot: 1, Records: l[i:]}, api.OK)
	}
	holdRecords(t, "small", img, 0, nil, nil, api.OK)
}

// P11.1: a Parent may be any id, of a record or of none, of several records.
func TestParents(t *testing.T) {
	for _, parent := range []int{0, 1, 3, 77, 1<<62 - 1} {
		img := device(8)
		l := []api.Record{{Next: 3, Id: 4, Parent: parent, Kind: api.Pending, Frames: 1}, {Next: 4, Id: 5, Parent: parent}, {Id: 6, Parent: parent}}
		for i, r := range l {
			setRecord(img, 2+i, r)
		}
		holdFirst(t, "parents", img, 2, l, []int{2, 3, 4}, api.OK)
	}
}

// P11.1: a device that dev.Check refuses, whatever it holds and whatever first is.
func TestRefusedDevices(t *testing.T) {
	whole := device(4098)
	copy(whole, small())
	for _, size := range []int{0, 1, 63, 64, 65, 128, 192, 255, 257, 28*64 - 1, 28*64 + 1, 4096*64 - 1, 4096*64 + 1, 4097 * 64, 4098 * 64} {
		holdRefused(t, "a device of another size", whole[:size], api.ErrLen)
		for _, first := range []int{math.MinInt, -1, 0, 1, 2, 10, 27, 28, 4095, 4096, 1 << 40, math.MaxInt} {
			holdRecords(t, "a device of another size", whole[:size], first, nil, nil, api.ErrLen)
		}
		// One of zeros, where ErrImage would do as well, and one whose superblock says its blocks.
		holdRefused(t, "zeros of another size", make([]byte, size), api.ErrLen)
		other := slices.Clone(whole[:size])
		if size >= 64 {
			set(other, 0, laidSuper(api.Super{Gen: 9, Blocks: size / 64}))
		}
		holdRefused(t, "an image of another size", other, api.ErrLen)
	}
	holdRefused(t, "nil", nil, api.ErrLen)
	holdRecords(t, "nil", nil, 0, nil, nil, api.ErrLen)
	holdRecords(t, "nil", nil, 10, nil, nil, api.ErrLen)
	holdRecords(t, "the least device", whole[:256], 0, nil, nil, api.OK)
	holdRecords(t, "the greatest device", whole[:4096*64], 10, smallRecords(), smallPlaces(), api.OK)
}

// P11.1: first at its edges. A right record stands in every block, the slots too, which are none of a record.
func TestFirsts(t *testing.T) {
	for _, blocks := range []int{4, 5, 28, 4095, 4096} {
		whole := device(4098)
		r := api.Record{Id: 5, Size: 3}
		for at := range 4098 {
			setRecord(whole, at, r)
		}
		img := whole[:blocks*64]
		for _, first := range []int{2, 3, blocks - 2, blocks - 1} {
			holdFirst(t, "a block", img, first, []api.Record{r}, []int{first}, api.OK)
		}
		holdFirst(t, "none", img, 0, nil, nil, api.OK)
		for _, first := range []int{-1, 1, blocks, blocks + 1} {
			holdFirst(t, "no block", img, first, nil, nil, api.ErrRecord)
		}
		for _, first := range []int{math.MinInt, math.MinInt + 2, -1 << 62, -1<<32 + 2, -1 << 32, -4096, -2, 4096, 4097, 1<<16 + 2, 1 << 32, 1<<32 + 2, 1 << 40, 1<<58 + 2, math.MaxInt - 1, math.MaxInt} {
			holdRecords(t, "no block", img, first, nil, nil, api.ErrRecord)
		}
	}
}

// P11.1: a Next at its edges, behind a Whole record and behind a Pending one.
func TestNexts(t *testing.T) {
	for _, kind := range []int{api.Whole, api.Pending} {
		for _, blocks := range []int{5, 28, 4095} {
			whole := device(4096)
			for at := range 4096 {
				setRecord(whole, at, api.Record{Id: 6})
			}
			img := whole[:blocks*64]
			ahead := api.Record{Id: 5, Kind: kind, Frames: kind}
			for _, next := range []int{0, 1, 3, blocks - 2, blocks - 1, blocks, blocks + 1, 4095, 4096, 1<<16 + 3, 1<<32 - 1} {
				ahead.Next = next
				setRecord(img, 2, ahead)
				switch {
				case next == 0:
					holdFirst(t, "no Next", img, 2, []api.Record{ahead}, []int{2}, api.OK)
				case next >= 2 && next < blocks:
					holdFirst(t, "Next", img, 2, []api.Record{ahead, {Id: 6}}, []int{2, next}, api.OK)
				default:
					holdFirst(t, "Next "+strconv.Itoa(next), img, 2, nil, nil, api.ErrRecord)
				}
			}
		}
	}
}

// noRecords are blocks that do not parse as a record, though most are nearly r's.
func noRecords(r api.Record) [][]byte {
	good := laidRecord(r)
	changed := func(place int, c byte) []byte {
		out := slices.Clone(good)
		out[place] = c
		return out
	}
	with := func(change func(r *api.Record)) []byte {
		out := r
		change(&out)
		return laidRecord(out)
	}
	return [][]byte{
		make([]byte, 64),
		bytes.Repeat([]byte{0xFF}, 64),
		sealed(nil),
		laidNode(0, 2), laidNode(2, 3), laidSuper(smallSuper()),
		sealed(append([]byte("snap"), good[4:60]...)),
		sealed(append([]byte("NODE"), good[4:60]...)),
		changed(63, good[63]^1),
		changed(8, good[8]^1),
		changed(59, 1),
		sealed(changed(48, 1)[:60]),
		sealed(changed(59, 1)[:60]),
		with(func(r *api.Record) { r.Id = 0 }),
		with(func(r *api.Record) { r.Id = 1 << 62 }),
		with(func(r *api.Record) { r.Id = -1 }),
		with(func(r *api.Record) { r.Parent = r.Id }),
		with(func(r *api.Record) { r.Parent = 1 << 62 }),
		with(func(r *api.Record) { r.Size = 513 }),
		with(func(r *api.Record) { r.Root = 1 }),
		with(func(r *api.Record) { r.Root = 4096 }),
		with(func(r *api.Record) { r.Next = 1 }),
		with(func(r *api.Record) { r.Next = 4096 }),
		with(func(r *api.Record) { r.Kind = 2 }),
		with(func(r *api.Record) { r.Kind, r.Frames = api.Pending, 0 }),
		with(func(r *api.Record) { r.Kind, r.Frames = api.Pending, 65536 }),
		with(func(r *api.Record) { r.Kind, r.Frames = api.Whole, 1 }),
		with(func(r *api.Record) { r.Kind, r.Digest = api.Whole, 1 }),
	}
}

// P11.1: a block that does not parse as a record, at each place.
func TestBlocksThatAreNoRecords(t *testing.T) {
	places := smallPlaces()
	for i, r := range smallRecords() {
		for k, b := range noRecords(r) {
			img := small()
			set(img, places[i], b)
			name := "block " + strconv.Itoa(k) + " at record " + strconv.Itoa(i)
			for _, first := range places[:i+1] {
				holdRecords(t, name, img, first, nil, nil, api.ErrRecord)
			}
			// What stands behind it is still right.
			if i+1 < len(places) {
				holdRecords(t, name, img, places[i+1], smallRecords()[i+1:], places[i+1:], api.OK)
			}
			holdRefused(t, name, img, api.ErrRecord)
		}
	}
}

// P11.1: a record that leads to itself, to one ahead of it: each to each.
func TestRecordsThatLeadBack(t *testing.T) {
	for n := 1; n <= 6; n++ {
		for from := range n {
			for to := range from + 1 {
				img := device(16)
				l, places := chain(img, 4, n)
				r := l[from]
				r.Next = places[to]
				setRecord(img, places[from], r)
				name := strconv.Itoa(n) + " records, " + strconv.Itoa(from) + " to " + strconv.Itoa(to)
				for _, first := range places[:from+1] {
					holdFirst(t, name, img, first, nil, nil, api.ErrRecord)
				}
			}
		}
	}
	// A Pending one, met again.
	img := small()
	r := smallRecords()[0]
	r.Next = 10
	setRecord(img, 10, r)
	holdRefused(t, "a Pending one that leads to itself", img, api.ErrRecord)
	img = small()
	r = smallRecords()[3]
	r.Next = 10
	setRecord(img, 27, r)
	holdRefused(t, "the last one leads to the Pending one", img, api.ErrRecord)
}

// P11.1: as many records of Kind Whole as may be, and more; a Pending one ahead of them is none of these.
func TestManyRecords(t *testing.T) {
	for _, n := range []int{1, 2, 58, 59, 60, 61, 62, 90} {
		img := device(100)
		l, places := chain(img, 6, n)
		pending := api.Record{Next: 6, Id: 1000, Kind: api.Pending, Frames: 1}
		setRecord(img, 5, pending)
		name := strconv.Itoa(n) + " records"
		if n > 60 {
			holdFirst(t, name, img, 6, nil, nil, api.ErrRecord)
			holdFirst(t, name, img, 5, nil, nil, api.ErrRecord)
			holdFirst(t, name, img, 6+n-60, l[n-60:], places[n-60:], api.OK)
			continue
		}
		holdFirst(t, name, img, 6, l, places, api.OK)
		holdFirst(t, name, img, 5, append([]api.Record{pending}, l...), append([]int{5}, places...), api.OK)
	}
}

// P11.1: a Pending record is none but as the first.
func TestPendingRecords(t *testing.T) {
	for n := 1; n <= 6; n++ {
		for at := range n {
			img := device(16)
			l, places := chain(img, 4, n)
			l[at].Kind, l[at].Frames, l[at].Digest = api.Pending, 3, 4
			setRecord(img, places[at], l[at])
			name := strconv.Itoa(n) + " records, Pending at " + strconv.Itoa(at)
			for i, first := range places {
				if i < at {
					holdFirst(t, name, img, first, nil, nil, api.ErrRecord)
				} else {
					holdFirst(t, name, img, first, l[i:], places[i:], api.OK)
				}
			}
		}
	}
	img := device(8)
	setRecord(img, 2, api.Record{Next: 3, Id: 1, Kind: api.Pending, Frames: 1})
	setRecord(img, 3, api.Record{Id: 2, Kind: api.Pending, Frames: 1})
	holdFirst(t, "two Pending ones", img, 2, nil, nil, api.ErrRecord)
}

// P11.1: two records of one Id, each two, the first of each kind; whatever else of them differs.
func TestIdsMetTwice(t *testing.T) {
	for _, kind := range []int{api.Whole, api.Pending} {
		for a := range 5 {
			for b := a + 1; b < 5; b++ {
				img := device(16)
				l, places := chain(img, 4, 5)
				l[0].Kind, l[0].Frames = kind, kind
				l[b].Id = l[a].Id
				l[b].Parent, l[b].Size = 99, 3
				setRecord(img, places[0], l[0])
				setRecord(img, places[b], l[b])
				name := "records " + strconv.Itoa(a) + " and " + strconv.Itoa(b)
				for i, first := range places {
					if i <= a {
						holdFirst(t, name, img, first, nil, nil, api.ErrRecord)
					} else {
						holdFirst(t, name, img, first, l[i:], places[i:], api.OK)
					}
				}
			}
		}
	}
	// The first and the last of as many as may be.
	img := device(80)
	l, places := chain(img, 4, 60)
	l[59].Id = 1
	setRecord(img, places[59], l[59])
	holdFirst(t, "the first and the last", img, 4, nil, nil, api.ErrRecord)
	// Ids that are one but for their upper half.
	l[59].Id = 1<<32 + 1
	setRecord(img, places[59], l[59])
	holdFirst(t, "ids of eight bytes", img, 4, l, places, api.OK)
}

// P11.1: which superblock is picked: of none, of one slot, of both.
func TestSlots(t *testing.T) {
	for _, x := range []struct {
		gens [2]int
		slot int
	}{
		{[2]int{0, 0}, -1}, {[2]int{1, 0}, 0}, {[2]int{0, 1}, 1}, {[2]int{1, 1}, 0}, {[2]int{1 << 40, 1 << 40}, 0},
		{[2]int{1, 2}, 1}, {[2]int{2, 1}, 0}, {[2]int{255, 256}, 1}, {[2]int{256, 255}, 0},
		{[2]int{1<<40 - 1, 1 << 40}, 1}, {[2]int{1 << 40, 1<<40 - 1}, 0}, {[2]int{1<<40 + 1, 1}, 1}, {[2]int{1, 1<<40 + 1}, 0}, {[2]int{-1, -1}, -1},
	} {
		img := small()
		supers := [2]api.Super{{Blocks: 28, Root: 2, Size: 100, First: 12}, {Blocks: 28, Root: 17, Size: 70, First: 10}}
		records := [2][]api.Record{smallRecords()[1:], smallRecords()}
		for slot := range 2 {
			supers[slot].Gen = x.gens[slot]
			set(img, slot, laidSuper(supers[slot]))
		}
		name := "Gens " + strconv.Itoa(x.gens[0]) + ", " + strconv.Itoa(x.gens[1])
		if x.slot < 0 {
			holdRefused(t, name, img, api.ErrImage)
			continue
		}
		holdOpen(t, name, img, api.State{Super: supers[x.slot], Slot: x.slot, Records: records[x.slot]}, api.OK)
	}
}

// P11.1: a slot that holds no superblock of this device is none, whatever its Gen is.
func TestSlotsThatHoldNone(t *testing.T) {
	good := laidSuper(api.Super{Gen: 9, Blocks: 28})
	changed := func(at int, c byte) []byte {
		out := slices.Clone(good)
		out[at] = c
		return out
	}
	for k, b := range [][]byte{
		make([]byte, 64), bytes.Repeat([]byte{0xFF}, 64), changed(0, 'w'), changed(63, good[63]^1), changed(4, 10), sealed(changed(28, 1)[:60]), sealed(changed(59, 1)[:60]),
		laidNode(2, 3), laidRecord(api.Record{Id: 1}),
		laidSuper(api.Super{Gen: 9, Blocks: 27}), laidSuper(api.Super{Gen: 9, Blocks: 29}), laidSuper(api.Super{Gen: 9, Blocks: 4096}),
		laidSuper(api.Super{Gen: 9, Blocks: 28, Root: 28}), laidSuper(api.Super{Gen: 9, Blocks: 28, First: 28}), laidSuper(api.Super{Gen: 9, Blocks: 28, Root: 1}), laidSuper(api.Super{Gen: 9, Blocks: 28, First: 1}), laidSuper(api.Super{Gen: 9, Blocks: 28, Size: 513}),
	} {
		name := "slot " + strconv.Itoa(k)
		img := small()
		set(img, 0, b)
		holdOpen(t, name, img, smallState(), api.OK)
		set(img, 1, b)
		holdRefused(t, name, img, api.ErrImage)
		setSuper(img, 0, smallSuper())
		want := smallState()
		want.Slot = 0
		holdOpen(t, name, img, want, api.OK)
	}
	// A superblock that stands in no slot.
	img := small()
	copy(img[26*64:], img[64:128])
	set(img, 1, make([]byte, 64))
	holdRefused(t, "a superblock in another block", img, api.ErrImage)
}

// P11.1: what is picked is opened or refused: the other slot is no way out, and is not looked at.
func TestTheOtherSlot(t *testing.T) {
	for _, x := range []struct {
		s api.Super
		e api.Errno
	}{
		{api.Super{Root: 3, Size: 100}, api.ErrTree}, {api.Super{Root: 2, Size: 99}, api.ErrTree}, {api.Super{Root: 26, Size: 100, First: 10}, api.ErrTree}, {api.Super{First: 2}, api.ErrRecord}, {api.Super{First: 26}, api.ErrRecord},
	} {
		img := small()
		x.s.Gen = 8
		setSuper(img, 0, x.s)
		holdRefused(t, "the greater Gen", img, x.e)
		x.s.Gen = 7
		setSuper(img, 0, x.s)
		holdRefused(t, "the same Gen", img, x.e)
		x.s.Gen = 6
		setSuper(img, 0, x.s)
		holdOpen(t, "the lesser Gen", img, smallState(), api.OK)
	}
}

// owned answers small with one tree put to root and size: the head's (-1), or a record's.
func owned(owner, root, size int) ([]byte, api.State) {
	img, s := small(), smallState()
	if owner < 0 {
		s.Super.Root, s.Super.Size = root, size
		setSuper(img, 1, s.Super)
	} else {
		s.Records[owner].Root, s.Records[owner].Size = root, size
		setRecord(img, smallPlaces()[owner], s.Records[owner])
	}
	return img, s
}

// P11.1: a tree that is none: the head's, each record's.
func TestTreesThatAreNone(t *testing.T) {
	for owner := -1; owner < 4; owner++ {
		// Nodes of other levels, sectors' blocks, records' blocks, blocks that are nothing.
		for root := 2; root < 28; root++ {
			img, s := owned(owner, root, 512)
			name := "root " + strconv.Itoa(root) + " of " + strconv.Itoa(owner)
			if slices.Contains([]int{2, 15, 17}, root) {
				holdOpen(t, name, img, s, api.OK)
			} else {
				holdRefused(t, name, img, api.ErrTree)
			}
		}
		img, s := owned(owner, 0, 512)
		holdOpen(t, "no root", img, s, api.OK)
		// A superblock with a root beyond its device is none; a record with one is.
		for _, root := range []int{28, 29, 4095} {
			img, _ := owned(owner, root, 512)
			want := api.ErrTree
			if owner < 0 {
				want = api.ErrImage
			}
			holdRefused(t, "a root beyond the device", img, want)
		}
	}
}

// P11.1: a fault below each root, which one tree has, or several.
func TestNodesThatAreNone(t *testing.T) {
	for _, at := range smallNodes() {
		for _, b := range [][]byte{make([]byte, 64), laidNode(3, 20), laidNode(0), laidNode(0, 28), laidNode(1, 28), laidNode(2, 28), laidNode(0, 4096), laidNode(2, at), laidNode(1, at), laidNode(0, at), laidRecord(api.Record{Id: 1})} {
			img := small()
			set(img, at, b)
			holdRefused(t, "node "+strconv.Itoa(at), img, api.ErrTree)
		}
	}
	// A node that is met twice in one tree.
	img := small()
	setNode(img, 16, 1, 5, 5)
	holdRefused(t, "node 5 twice", img, api.ErrTree)
	img = small()
	setNode(img, 17, 2, 3, 19, 19)
	holdRefused(t, "node 19 twice", img, api.ErrTree)
}

// P11.1: a tree with its only block at each sector: the Size is above that, or the image is refused; the head's, a record's, the last of several records'.
func TestSizes(t *testing.T) {
	for sector := range 512 {
		for _, size := range []int{0, 1, sector - 1, sector, sector + 1, sector + 2, 256, 511, 512} {
			if size < 0 || size > 512 {
				continue
			}
			want := api.OK
			if size <= sector {
				want = api.ErrTree
			}
			for owner := range 3 {
				img := device(12)
				oneSector(img, 6, sector)
				s := api.Super{Gen: 2, Blocks: 12, First: 2}
				l := []api.Record{{Next: 3, Id: 8}, {Id: 7}}
				if owner == 0 {
					s.Root, s.Size = 6, size
				} else {
					l[owner-1].Root, l[owner-1].Size = 6, size
				}
				setSuper(img, 0, s)
				setRecord(img, 2, l[0])
				setRecord(img, 3, l[1])
				name := "sector " + strconv.Itoa(sector) + ", size " + strconv.Itoa(size) + ", owner " + strconv.Itoa(owner)
				if want != api.OK {
					holdRefused(t, name, img, want)
				} else {
					holdOpen(t, name, img, api.State{Super: s, Records: l}, api.OK)
				}
			}
		}
	}
}

// P11.1: the Size is held against all sectors from it on, whatever stands ahead; each tree of small.
func TestSizesOfSmall(t *testing.T) {
	// The last sector of each root that has a block.
	for root, last := range map[int]int{0: -1, 2: 99, 15: 11, 17: 64} {
		for owner := -1; owner < 4; owner++ {
			for size := range 513 {
				img, s := owned(owner, root, size)
				name := "root " + strconv.Itoa(root) + " of " + strconv.Itoa(owner) + ", size " + strconv.Itoa(size)
				if size <= last {
					holdRefused(t, name, img, api.ErrTree)
				} else {
					holdOpen(t, name, img, s, api.OK)
				}
			}
		}
	}
}

// P11.1: a Size of 0 beside a root.
func TestNoSizeBesideARoot(t *testing.T) {
	for owner := -1; owner < 4; owner++ {
		for _, root := range []int{2, 15, 17} {
			img, _ := owned(owner, root, 0)
			holdRefused(t, "root "+strconv.Itoa(root)+" without a size", img, api.ErrTree)
		}
		img, s := owned(owner, 0, 0)
		holdOpen(t, "no root, no size", img, s, api.OK)
	}
}

// P11.1: each tree of small with one more sector, in each block: a node's, a record's block may not be it, all others may.
func TestSectorsInEachBlock(t *testing.T) {
	for name, lay := range map[string]func(img []byte, at int){
		"the head, and a record":     func(img []byte, at int) { setNode(img, 7, 0, at, 0, 0, 23) },
		"all trees":                  func(img []byte, at int) { setNode(img, 5, 0, 20, 21, 0, 0, 0, 0, 0, at) },
		"the Pending record":         func(img []byte, at int) { setNode(img, 18, 0, at, 21, 0, 24) },
		"a Whole record":             func(img []byte, at int) { setNode(img, 8, 0, at) },
		"the head and a Whole one":   func(img []byte, at int) { setNode(img, 6, 0, 0, 22, at) },
		"the last sector of a tree":  func(img []byte, at int) { setNode(img, 7, 0, 0, 0, 0, at) },
		"twice, the Pending record":  func(img []byte, at int) { setNode(img, 18, 0, at, at, 0, 24) },
		"the only block of its node": func(img []byte, at int) { setNode(img, 18, 0, 0, 0, 0, at) },
	} {
		for at := 2; at < 28; at++ {
			img := small()
			lay(img, at)
			if slices.Contains(smallNodes(), at) || slices.Contains(smallPlaces(), at) {
				holdRefused(t, name+": block "+strconv.Itoa(at), img, api.ErrTree)
			} else {
				holdOpen(t, name+": block "+strconv.Itoa(at), img, smallState(), api.OK)
			}
		}
	}
}

// P11.1: a record's tree whose nodes lie in sectors' blocks of the head, of other records: by each level.
func TestNodesInSectorsBlocks(t *testing.T) {
	for at := 20; at <= 26; at++ {
		for level := range 3 {
			for owner := -1; owner < 4; owner++ {
				// Blocks 9, 13 and 14 are free: they take what is not in block at.
				nodes := [3]int{9, 13, 14}
				nodes[level] = at
				img, s := owned(owner, nodes[2], 512)
				setNode(img, nodes[2], 2, 0, nodes[1])
				setNode(img, nodes[1], 1, nodes[0])
				setNode(img, nodes[0], 0, 26)
				// What of small is still reached where that owner's own tree is not: 22 by the roots 2 and 17, 24 by 15, 25 by 17. The level below leads to 26.
				reached := map[int]bool{20: true, 21: true, 22: true, 23: true, 24: owner != 0, 25: owner != 2, 26: true}[at]
				name := "level " + strconv.Itoa(level) + " of " + strconv.Itoa(owner) + " in block " + strconv.Itoa(at)
				if reached {
					holdRefused(t, name, img, api.ErrTree)
				} else {
					holdOpen(t, name, img, s, api.OK)
				}
			}
		}
	}
}

// P11.1: a record's block that is a sector's block: of the head, of the record itself, of one ahead of it, of one behind it.
func TestRecordsInSectorsBlocks(t *testing.T) {
	for i, r := range smallRecords() {
		for at := 20; at <= 26; at++ {
			img, s := small(), smallState()
			if i == 0 {
				s.Super.First = at
				setSuper(img, 1, s.Super)
			} else {
				s.Records[i-1].Next = at
				setRecord(img, smallPlaces()[i-1], s.Records[i-1])
			}
			setRecord(img, at, r)
			name := "record " + strconv.Itoa(i) + " in block " + strconv.Itoa(at)
			if at == 26 {
				holdOpen(t, name, img, s, api.OK)
			} else {
				holdRefused(t, name, img, api.ErrTree)
			}
			places := smallPlaces()
			places[i] = at
			holdRecords(t, name, img, s.Super.First, s.Records, places, api.OK)
		}
	}
}

// P11.1: a record's block that is a node: of the head, of each record, at each level; and a node's that is to be a record.
func TestRecordsThatAreNodes(t *testing.T) {
	for _, at := range smallPlaces() {
		for owner := -1; owner < 4; owner++ {
			img, _ := owned(owner, at, 512)
			holdRefused(t, "a root", img, api.ErrTree)
			img, _ = owned(owner, 9, 512)
			setNode(img, 9, 2, at)
			holdRefused(t, "a node of level 1", img, api.ErrTree)
			setNode(img, 9, 2, 13)
			setNode(img, 13, 1, 0, at)
			holdRefused(t, "a node of level 0", img, api.ErrTree)
		}
	}
	for _, at := range smallNodes() {
		img, s := small(), smallSuper()
		s.First = at
		setSuper(img, 1, s)
		holdRefused(t, "a node as the first record", img, api.ErrRecord)
		for i, r := range smallRecords() {
			img := small()
			r.Next = at
			setRecord(img, smallPlaces()[i], r)
			holdRefused(t, "a node as the next record", img, api.ErrRecord)
		}
		// A record laid over a node is one, but the tree is none any more.
		img = small()
		r := smallRecords()[3]
		r.Next, r.Id = 0, 77
		last := smallRecords()[3]
		last.Next = at
		setRecord(img, 27, last)
		setRecord(img, at, r)
		holdRefused(t, "a record over a node", img, api.ErrTree)
	}
}

// P11.1: a node's block may be one of two trees, a sector's block too, also at other places of these.
func TestSharing(t *testing.T) {
	for owner := range 4 {
		for name, lay := range map[string]func(img []byte){
			"its nodes of level 1":          func(img []byte) { setNode(img, 9, 2, 3, 4) },
			"these, at other places":        func(img []byte) { setNode(img, 9, 2, 0, 4, 0, 0, 3) },
			"a node of level 0, at another": func(img []byte) { setNode(img, 9, 2, 13); setNode(img, 13, 1, 7, 0, 0, 0, 0, 0, 0, 5) },
			"nodes of several trees":        func(img []byte) { setNode(img, 9, 2, 0, 0, 13, 19); setNode(img, 13, 1, 18, 6) },
			"sectors' blocks, at other places": func(img []byte) {
				setNode(img, 9, 2, 13)
				setNode(img, 13, 1, 14)
				setNode(img, 14, 0, 25, 24, 23, 22, 21, 20, 22, 22)
			},
			"a sector's block that is no one's": func(img []byte) { setNode(img, 9, 2, 13); setNode(img, 13, 1, 14); setNode(img, 14, 0, 26, 26) },
			"a sector's block that is all zeros": func(img []byte) {
				setNode(img, 9, 2, 13)
				setNode(img, 13, 1, 14)
				setNode(img, 14, 0, 26)
				set(img, 26, make([]byte, 64))
			},
		} {
			img, s := owned(owner, 9, 512)
			lay(img)
			holdOpen(t, name, img, s, api.OK)
		}
	}
	// All have one tree.
	img, s := small(), smallState()
	for i := range s.Records {
		s.Records[i].Root, s.Records[i].Size = 2, 100+i
		setRecord(img, smallPlaces()[i], s.Records[i])
	}
	holdOpen(t, "one tree", img, s, api.OK)
}

// P11.1: sectors' blocks, and blocks that nothing leads to, are of any bytes, also those of a superblock, a record, a node.
func TestBlocksOfAnyBytes(t *testing.T) {
	for _, b := range [][]byte{make([]byte, 64), bytes.Repeat([]byte{0xFF}, 64), laidSuper(api.Super{Gen: 1 << 40, Blocks: 28}), laidRecord(api.Record{Id: 40}), laidRecord(smallRecords()[0]), laidNode(0, 2), laidNode(2, 3, 4), laidNode(2, 28)} {
		img := small()
		for _, at := range []int{9, 13, 14, 20, 21, 22, 23, 24, 25, 26} {
			set(img, at, b)
		}
		holdOpen(t, "any bytes", img, smallState(), api.OK)
	}
}

// P11.1: which error comes first, where two or three would do.
func TestOrderOfErrors(t *testing.T) {
	noSuper := func(img []byte) { img[64+5] ^= 1 }
	noRecord := func(img []byte) { img[27*64+9] ^= 1 }
	noHead := func(img []byte) { img[4*64+9] ^= 1 }
	noTree := func(img []byte) { img[15*64+9] ^= 1 }
	twice := func(img []byte) { setNode(img, 18, 0, 27, 21, 0, 24) }
	for k, x := range []struct {
		faults []func(img []byte)
		e      api.Errno
	}{
		{[]func(img []byte){noSuper, noRecord, noHead, noTree, twice}, api.ErrImage},
		{[]func(img []byte){noSuper, noRecord}, api.ErrImage},
		{[]func(img []byte){noSuper, noHead}, api.ErrImage},
		{[]func(img []byte){noSuper, twice}, api.ErrImage},
		{[]func(img []byte){noRecord, noHead, noTree, twice}, api.ErrRecord},
		{[]func(img []byte){noRecord, noHead}, api.ErrRecord},
		{[]func(img []byte){noRecord, noTree}, api.ErrRecord},
		{[]func(img []byte){noRecord, twice}, api.ErrRecord},
		{[]func(img []byte){noHead, noTree, twice}, api.ErrTree},
		{[]func(img []byte){noHead}, api.ErrTree},
		{[]func(img []byte){noTree}, api.ErrTree},
		{[]func(img []byte){twice}, api.ErrTree},
	} {
		img := small()
		for _, fault := range x.faults {
			fault(img)
		}
		holdRefused(t, "faults "+strconv.Itoa(k), img, x.e)
		holdRefused(t, "faults of a device that is none", img[:len(img)-1], api.ErrLen)
		holdRecords(t, "faults of a device that is none", img[:len(img)-1], 10, nil, nil, api.ErrLen)
		holdRefused(t, "faults of a device that is none", append(img, 0), api.ErrLen)
	}
	// Records does not ask for a superblock, nor for trees.
	img := small()
	noSuper(img)
	noHead(img)
	noTree(img)
	twice(img)
	holdRecords(t, "no superblock, no tree", img, 10, smallRecords(), smallPlaces(), api.OK)
}

// P11.1: Find, of states of images.
func TestFind(t *testing.T) {
	s, e := Open(small())
	if e != api.OK {
		t.Fatal(e)
	}
	for _, x := range []struct {
		id, place int
		ok        bool
	}{
		{40, 0, false}, {30, 1, true}, {20, 2, true}, {1<<62 - 1, 3, true},
		{0, 0, false}, {-1, 0, false}, {1, 0, false}, {41, 0, false}, {-30, 0, false}, {1<<32 + 30, 0, false}, {1 << 62, 0, false}, {math.MaxInt, 0, false}, {math.MinInt, 0, false}, {math.MinInt + 30, 0, false},
	} {
		if place, ok := Find(s, x.id); place != x.place || ok != x.ok {
			t.Errorf("Find of %d: %d, %t", x.id, place, ok)
		}
	}
}

// P11.1: Find, of any state.
func TestFindInAnyState(t *testing.T) {
	whole := func(id int) api.Record { return api.Record{Id: id} }
	pending := func(id int) api.Record { return api.Record{Id: id, Kind: api.Pending, Frames: 1} }
	for k, x := range []struct {
		l     []api.Record
		id    int
		place int
		ok    bool
	}{
		{nil, 7, 0, false},
		{nil, 0, 0, false},
		{[]api.Record{}, 7, 0, false},
		{[]api.Record{whole(7)}, 7, 0, true},
		{[]api.Record{whole(7)}, 8, 0, false},
		{[]api.Record{pending(7)}, 7, 0, false},
		{[]api.Record{pending(7), whole(7)}, 7, 1, true},
		{[]api.Record{pending(7), whole(8)}, 7, 0, false},
		{[]api.Record{pending(7), whole(8), pending(7)}, 7, 0, false},
		{[]api.Record{whole(7), pending(7)}, 7, 0, true},
		{[]api.Record{whole(8), whole(7), whole(7), whole(7)}, 7, 1, true},
		{[]api.Record{whole(8), pending(7), whole(7), whole(7)}, 7, 2, true},
		{[]api.Record{whole(8), whole(9), whole(7)}, 7, 2, true},
		// An Id and a Kind that no record has; each other field is nothing to Find.
		{[]api.Record{whole(1), whole(0)}, 0, 1, true},
		{[]api.Record{whole(-3), whole(0)}, -3, 0, true},
		{[]api.Record{whole(0), whole(math.MinInt)}, math.MinInt, 1, true},
		{[]api.Record{whole(0), whole(math.MaxInt)}, math.MaxInt, 1, true},
		{[]api.Record{{Id: 7, Kind: 2}, {Id: 7, Kind: -1}}, 7, 0, false},
		{[]api.Record{{Id: 7, Kind: 2}, {Id: 7, Kind: math.MaxInt}, {Id: 7, Next: -1, Parent: 7, Root: -1, Size: 9999, Frames: 3, Digest: -3}}, 7, 2, true},
		{[]api.Record{{Id: 8, Parent: 7, Next: 7, Root: 7, Size: 7}}, 7, 0, false},
	} {
		s := api.State{Super: api.Super{Gen: -1, Blocks: 7, Root: 7, Size: 7, First: 7}, Slot: 7, Records: x.l}
		if place, ok := Find(s, x.id); place != x.place || ok != x.ok {
			t.Errorf("%d: Find of %d: %d, %t", k, x.id, place, ok)
		}
	}
	// More records than any image has, the last one asked.
	many := make([]api.Record, 5000)
	many[4999].Id = 7
	if place, ok := Find(api.State{Records: many}, 7); place != 4999 || !ok {
		t.Errorf("Find among many: %d, %t", place, ok)
	}
	// What lies behind a list's length is not of it.
	if place, ok := Find(api.State{Records: many[:4999]}, 7); place != 0 || ok {
		t.Errorf("Find reads the room behind: %d, %t", place, ok)
	}
}

// T4: each bit of an image, changed: what leads to something is refused with its own error, all else changes nothing.
func TestEveryBit(t *testing.T) {
	img, want := small(), smallState()
	for at := range len(img) {
		e := api.OK
		switch block := at / 64; {
		case block == 1:
			e = api.ErrImage
		case slices.Contains(smallPlaces(), block):
			e = api.ErrRecord
		case slices.Contains(smallNodes(), block):
			e = api.ErrTree
		}
		for bit := range 8 {
			img[at] ^= 1 << bit
			s, f := Open(img)
			if f != e || e == api.OK && !equal(s, want) || e != api.OK && !equal(s, api.State{}) {
				t.Errorf("byte %d, bit %d: %v, %d, want %d", at, bit, s, f, e)
			}
			img[at] ^= 1 << bit
		}
	}
}

// T4: every length of an image that is cut off.
func TestCutImages(t *testing.T) {
	img := small()
	for size := range len(img) {
		want := api.ErrLen
		if size%64 == 0 && size >= 256 {
			want = api.ErrImage
		}
		holdRefused(t, "cut off at "+strconv.Itoa(size), img[:size], want)
	}
}

// The model: what is to be answered, told by other means than the program's.

func word(b []byte, at int) int {
	return int(binary.LittleEndian.Uint32(b[at:]))
}

// long answers a number of eight bytes, -1 for one that is above every id.
func long(b []byte, at int) int {
	if n := binary.LittleEndian.Uint64(b[at:]); n < 1<<62 {
		return int(n)
	}
	return -1
}

// modelBlock answers the bytes of a block, and whether it begins with magic, has its sum, and zeros from a place on.
func modelBlock(img []byte, at int, magic string, zeros int) ([]byte, bool) {
	b := img[at*64 : at*64+64]
	return b, string(b[:4]) == magic && bytes.Equal(b, sealed(b[:60])) && bytes.Equal(b[zeros:60], make([]byte, 60-zeros))
}

func modelSuper(img []byte, slot int) (api.Super, bool) {
	b, ok := modelBlock(img, slot, "WCUT", 28)
	s := api.Super{Gen: long(b, 4), Blocks: word(b, 12), Root: word(b, 16), Size: word(b, 20), First: word(b, 24)}
	lead := func(at int) bool { return at != 1 && at < s.Blocks }
	return s, ok && s.Gen >= 1 && s.Gen <= 1<<40 && s.Blocks == len(img)/64 && s.Size <= 512 && lead(s.Root) && lead(s.First)
}

func modelRecord(img []byte, at int) (api.Record, bool) {
	b, ok := modelBlock(img, at, "SNAP", 48)
	r := api.Record{Next: word(b, 4), Id: long(b, 8), Parent: long(b, 16), Root: word(b, 24), Size: word(b, 28), Kind: word(b, 32), Frames: word(b, 36), Digest: word(b, 40)}
	lead := func(at int) bool { return at != 1 && at < 4096 }
	zeros := word(b, 44) == 0
	kind := r.Kind == 0 && r.Frames == 0 && r.Digest == 0 || r.Kind == 1 && r.Frames >= 1 && r.Frames <= 65535
	return r, ok && zeros && lead(r.Next) && lead(r.Root) && r.Id >= 1 && r.Parent >= 0 && r.Parent != r.Id && r.Size <= 512 && kind
}

func modelNode(img []byte, at int) (level int, ptr [8]int, ok bool) {
	b, ok := modelBlock(img, at, "NODE", 40)
	some := false
	for i := range ptr {
		ptr[i] = word(b, 8+4*i)
		ok = ok && ptr[i] != 1 && ptr[i] < 4096
		some = some || ptr[i] != 0
	}
	return word(b, 4), ptr, ok && some && word(b, 4) <= 2
}

// modelRecords goes to each record at most once, and holds all against each other at the end.
func modelRecords(img []byte, first int) (l []api.Record, places []int, ok bool) {
	blocks := len(img) / 64
	for at := first; at != 0; {
		if at < 2 || at >= blocks || slices.Contains(places, at) {
			return nil, nil, false
		}
		r, ok := modelRecord(img, at)
		if !ok {
			return nil, nil, false
		}
		l, places = append(l, r), append(places, at)
		at = r.Next
	}
	whole, ids := 0, map[int]int{}
	for i, r := range l {
		ids[r.Id]++
		whole += 1 - r.Kind
		if i > 0 && r.Kind == 1 {
			return nil, nil, false
		}
	}
	return l, places, whole <= 60 && len(ids) == len(l)
}

// modelTree answers which blocks are nodes and which are sectors' blocks, sector by sector.
func modelTree(img []byte, root, size int) (nodes, sectors map[int]int, ok bool) {
	blocks := len(img) / 64
	// ways are those on which a node is met: two of one block make it none.
	ways := map[int][2]int{}
	nodes, sectors = map[int]int{}, map[int]int{}
	for s := range 512 {
		at := root
		for level := 2; level >= 0 && at != 0; level-- {
			below := []int{1, 8, 64}[level]
			way := [2]int{level, s / (below * 8)}
			if at < 2 || at >= blocks {
				return nil, nil, false
			}
			if w, met := ways[at]; met && w != way {
				return nil, nil, false
			}
			ways[at] = way
			l, ptr, ok := modelNode(img, at)
			if !ok || l != level {
				return nil, nil, false
			}
			nodes[at]++
			at = ptr[s/below%8]
		}
		if at >= blocks || at != 0 && s >= size {
			return nil, nil, false
		}
		if at != 0 {
			sectors[at]++
		}
	}
	for at := range sectors {
		if nodes[at] > 0 {
			return nil, nil, false
		}
	}
	return nodes, sectors, true
}

func modelOpen(img []byte) (api.State, api.Errno) {
	a, okA := modelSuper(img, 0)
	b, okB := modelSuper(img, 1)
	if !okA && !okB {
		return api.State{}, api.ErrImage
	}
	state := api.State{Super: a}
	if !okA || okB && b.Gen > a.Gen {
		state = api.State{Super: b, Slot: 1}
	}
	l, places, ok := modelRecords(img, state.Super.First)
	if !ok {
		return api.State{}, api.ErrRecord
	}
	state.Records = l
	nodes, sectors := map[int]int{}, map[int]int{}
	for _, x := range append([]api.Record{{Root: state.Super.Root, Size: state.Super.Size}}, l...) {
		n, s, ok := modelTree(img, x.Root, x.Size)
		if !ok {
			return api.State{}, api.ErrTree
		}
		for at := range n {
			nodes[at]++
		}
		for at := range s {
			sectors[at]++
		}
	}
	for at := range len(img) / 64 {
		isRecord := slices.Contains(places, at)
		if nodes[at] > 0 && sectors[at] > 0 || isRecord && (nodes[at] > 0 || sectors[at] > 0) {
			return api.State{}, api.ErrTree
		}
	}
	return state, api.OK
}

// dice answers numbers below n, the same ones in each run.
func dice() func(n int) int {
	x := uint64(88172645463325252)
	return func(n int) int {
		x ^= x << 13
		x ^= x >> 7
		x ^= x << 17
		return int(x >> 33 % uint64(n))
	}
}

// thrown answers an image whose blocks are mostly of a right kind each: blocks of each kind lead to ones of the kind that they ask, but for some throws.
func thrown(roll func(n int) int) []byte {
	blocks := 20 + roll(20)
	img := device(blocks)
	// Which blocks are of which kind: nodes of level 0, 1 and 2, sectors, records.
	kinds := make([][]int, 5)
	for at := 2; at < blocks; at++ {
		k := []int{0, 0, 1, 2, 3, 3, 4}[roll(7)]
		kinds[k] = append(kinds[k], at)
	}
	of := func(k int) int {
		if roll(120) == 0 || len(kinds[k]) == 0 {
			return roll(blocks + 2)
		}
		return kinds[k][roll(len(kinds[k]))]
	}
	maybe := func(k int) int {
		if roll(3) == 0 {
			return 0
		}
		return of(k)
	}
	size := func() int { return []int{512, 512, 512, 512, 64, 128, 400, roll(513)}[roll(8)] }
	for level := range 3 {
		for _, at := range kinds[level] {
			var ptr [8]int
			for range 1 + roll(2) {
				ptr[roll(8)] = of([]int{3, 0, 1}[level])
			}
			setNode(img, at, level, ptr[:]...)
		}
	}
	for i, at := range kinds[4] {
		// Mostly to a record behind it, so that most ways end.
		r := api.Record{Id: 1 + roll(60), Root: maybe(2), Size: size()}
		if i+1 < len(kinds[4]) && roll(4) > 0 {
			r.Next = kinds[4][i+1]
		} else if roll(10) == 0 {
			r.Next = of(4)
		}
		if i == 0 && roll(3) == 0 || roll(30) == 0 {
			r.Kind, r.Frames, r.Digest = api.Pending, 1+roll(9), roll(9)
		}
		setRecord(img, at, r)
	}
	for slot := range 2 {
		if roll(4) > 0 {
			s := api.Super{Gen: 1 + roll(4), Root: maybe(2), Size: size()}
			if len(kinds[4]) > 0 && roll(3) > 0 {
				s.First = kinds[4][0]
			}
			setSuper(img, slot, s)
		}
	}
	if roll(10) == 0 {
		img[roll(len(img))] ^= 1
	}
	return img
}

// T4: images whose blocks are thrown, held against the model.
func TestThrownImages(t *testing.T) {
	roll := dice()
	met := map[api.Errno]int{}
	records, trees := 0, 0
	for range 12000 {
		img := thrown(roll)
		want, e := modelOpen(img)
		met[e]++
		if len(want.Records) > 1 {
			records++
		}
		if want.Super.Root != 0 && slices.ContainsFunc(want.Records, func(r api.Record) bool { return r.Root != 0 }) {
			trees++
		}
		if s, f := Open(img); f != e || !equal(s, want) {
			t.Fatalf("%v: %v, %d, want %v, %d", img, s, f, want, e)
		}
		first := roll(len(img)/64 + 2)
		l, places, ok := modelRecords(img, first)
		if ok {
			holdRecords(t, "a thrown image", img, first, l, places, api.OK)
		} else {
			holdRecords(t, "a thrown image", img, first, nil, nil, api.ErrRecord)
		}
	}
	for _, e := range []api.Errno{api.OK, api.ErrImage, api.ErrRecord, api.ErrTree} {
		if met[e] < 500 {
			t.Errorf("only %d images were thrown with %d", met[e], e)
		}
	}
	if records < 300 || trees < 300 {
		t.Errorf("only %d of several records, %d of several trees", records, trees)
	}
}

// T4: images of bytes that are thrown are refused.
func TestThrownBytes(t *testing.T) {
	roll := dice()
	for range 300 {
		img := device(4 + roll(60))
		for at := range img {
			img[at] = byte(roll(256))
		}
		for at := range len(img) / 64 {
			copy(img[at*64:], []string{"WCUT", "SNAP", "NODE", ""}[roll(4)])
		}
		holdRefused(t, "thrown bytes", img, api.ErrImage)
		for first := 1; first <= len(img)/64; first++ {
			holdRecords(t, "thrown bytes", img, first, nil, nil, api.ErrRecord)
		}
		// With a right superblock: what it leads to is none.
		setSuper(img, 0, api.Super{Gen: 1, First: 2, Root: 2})
		holdRefused(t, "thrown bytes behind a superblock", img, api.ErrRecord)
		setSuper(img, 0, api.Super{Gen: 1, Root: 2, Size: 512})
		holdRefused(t, "thrown bytes behind a superblock", img, api.ErrTree)
	}
}

// The greatest image: as many records as may be, all with trees of all sectors.
func TestGreatestImage(t *testing.T) {
	img := device(4096)
	rising := func(from, step int) []int {
		var l []int
		for i := range 8 {
			l = append(l, from+step*i)
		}
		return l
	}
	// All roots share the nodes of level 1 from 100 on, those of level 0 from 200 on, the sectors from 3584 on.
	for i := range 8 {
		setNode(img, 100+i, 1, rising(200+8*i, 1)...)
	}
	for i := range 64 {
		setNode(img, 200+i, 0, rising(3584+8*i, 1)...)
	}
	want := api.State{Super: api.Super{Gen: 1 << 40, Blocks: 4096, Root: 1000, Size: 512, First: 2000}, Slot: 1}
	setSuper(img, 1, want.Super)
	setNode(img, 1000, 2, rising(100, 1)...)
	for i := range 61 {
		r := api.Record{Next: 2001 + i, Id: 100 - i, Root: 1001 + i, Size: 512}
		if i == 0 {
			r.Kind, r.Frames = api.Pending, 65535
		}
		if i == 60 {
			r.Next = 0
		}
		setNode(img, r.Root, 2, rising(107, -1)...)
		setRecord(img, 2000+i, r)
		want.Records = append(want.Records, r)
	}
	holdOpen(t, "the greatest image", img, want, api.OK)
	// The last record's tree alone has a fault.
	last := want.Records[60]
	last.Size = 511
	setRecord(img, 2060, last)
	holdRefused(t, "a size of 511", img, api.ErrTree)
	last.Size = 512
	setRecord(img, 2060, last)
	setNode(img, last.Root, 2, 100, 101, 3000)
	setNode(img, 3000, 1, 3001)
	setNode(img, 3001, 0, 0, 0, 4095)
	holdOpen(t, "nodes of its own", img, want, api.OK)
	setNode(img, 3001, 0, 0, 0, 1030)
	holdRefused(t, "another one's root as a sector", img, api.ErrTree)
	setNode(img, 3001, 0, 0, 0, 2060)
	holdRefused(t, "its own record as a sector", img, api.ErrTree)
	setNode(img, 3001, 0, 0, 0, 2000)
	holdRefused(t, "the first record as a sector", img, api.ErrTree)
}

// spared answers b with room behind that is full of c.
func spared(b []byte, c byte) []byte {
	return append(slices.Clone(b), bytes.Repeat([]byte{c}, 4096)...)[:len(b)]
}

// R2, R3, R6: no argument is changed, its spare room neither, and what lies behind a device is not read.
func TestArgumentsStay(t *testing.T) {
	broken := small()
	setNode(broken, 18, 0, 27)
	for _, img := range [][]byte{small(), broken, small()[:27*64], small()[:100], device(4), nil} {
		want, e := Open(slices.Clip(slices.Clone(img)))
		for _, c := range []byte{0, 0xFF} {
			b := spared(img, c)
			s, f := Open(b)
			for _, first := range []int{-1, 0, 1, 10, 27, 28} {
				Records(b, first)
			}
			if !bytes.Equal(b, img) || !bytes.Equal(b[len(b):len(b)+4096], bytes.Repeat([]byte{c}, 4096)) {
				t.Errorf("a device of %d bytes is changed", len(img))
			}
			if !equal(s, want) || e != f {
				t.Errorf("the room behind %d bytes is read: %v, %d", len(img), s, f)
			}
		}
	}
	// The record and the nodes that the short device lacks stand in its room.
	room := small()
	setSuper(room[:27*64], 1, api.Super{Gen: 7, First: 10})
	holdRefused(t, "a record in the room", room[:27*64], api.ErrRecord)
	holdRecords(t, "a record in the room", room[:27*64], 10, nil, nil, api.ErrRecord)
	holdRecords(t, "a record in the room", room[:27*64], 27, nil, nil, api.ErrRecord)
	setNode(room, 27, 2, 3)
	setRecord(room, 10, api.Record{Id: 3, Root: 27, Size: 512})
	holdRefused(t, "a node in the room", room[:27*64], api.ErrTree)

	l := append(smallRecords(), api.Record{Id: 50}, api.Record{Id: 51})
	s := api.State{Super: smallSuper(), Slot: 1, Records: l[:4]}
	for _, id := range []int{0, 20, 40, 50, 51} {
		Find(s, id)
	}
	if !slices.Equal(l, append(smallRecords(), api.Record{Id: 50}, api.Record{Id: 51})) {
		t.Error("Find changed its state")
	}
	if _, ok := Find(s, 50); ok {
		t.Error("Find reads the room behind the records")
	}
}

// scrawl writes all over l, its spare room too.
func scrawl[T any](l []T, with T) {
	l = l[:cap(l)]
	for i := range l {
		l[i] = with
	}
}

// R2, R3: each answer is memory of its own, and nothing of a call is kept.
func TestAnswersAreNew(t *testing.T) {
	img := small()
	s, _ := Open(img)
	l, places, _ := Records(img, 10)
	again, placesAgain, _ := Records(img, 10)
	scrawl(l, api.Record{Id: -7})
	scrawl(places, -7)
	if !slices.Equal(again, smallRecords()) || !slices.Equal(placesAgain, smallPlaces()) || !equal(s, smallState()) {
		t.Error("two answers share memory")
	}
	scrawl(s.Records, api.Record{Id: -7})
	holdOpen(t, "a second call", img, smallState(), api.OK)
	holdRecords(t, "a second call", img, 10, smallRecords(), smallPlaces(), api.OK)
	if !bytes.Equal(img, small()) {
		t.Error("an answer shares memory with its device")
	}
	s, _ = Open(img)
	scrawl(img, 0xFF)
	if !equal(s, smallState()) || !slices.Equal(again, smallRecords()) {
		t.Error("an answer shares memory with its device")
	}
	holdRefused(t, "a device that is written over", img, api.ErrImage)
	holdOpen(t, "a call behind a refused one", small(), smallState(), api.OK)

	a, _ := New(4)
	b, _ := New(4)
	want := slices.Clone(b)
	scrawl(a, 0xFF)
	c, _ := New(4)
	if !bytes.Equal(b, want) || !bytes.Equal(c, want) {
		t.Error("two new images share memory")
	}
}
