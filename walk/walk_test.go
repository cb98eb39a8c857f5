package walk

import (
	"bytes"
	"encoding/binary"
	"math"
	"slices"
	"strconv"
	"testing"

	"woodcut/api"
	"woodcut/node"
	"woodcut/open"
	"woodcut/record"
	"woodcut/super"
)

// laid answers a block that its layer has made, or ends the tests: what they lay is right.
func laid(b []byte, e api.Errno) []byte {
	if e != api.OK {
		panic("a test lays what is not right: " + e.Error())
	}
	return b
}

// device answers one of so many blocks, all zeros.
func device(blocks int) []byte {
	return make([]byte, blocks*64)
}

// set lays b into block at of img.
func set(img []byte, at int, b []byte) {
	copy(img[at*64:(at+1)*64], b)
}

func nodeBlock(level int, ptr ...int) []byte {
	n := api.Node{Level: level}
	copy(n.Ptr[:], ptr)
	return laid(node.Bytes(n))
}

func setNode(img []byte, at, level int, ptr ...int) {
	set(img, at, nodeBlock(level, ptr...))
}

func setRecord(img []byte, at int, r api.Record) {
	set(img, at, laid(record.Bytes(r)))
}

// setSuper lays s into a slot of img, with as many Blocks as img has.
func setSuper(img []byte, slot int, s api.Super) {
	s.Blocks = len(img) / 64
	set(img, slot, laid(super.Bytes(s)))
}

// alone answers eight pointers, all 0 but the one at place i.
func alone(i, at int) []int {
	ptr := make([]int, 8)
	ptr[i] = at
	return ptr
}

// oneSector lays a tree of one sector, whose nodes are the blocks top, middle and low.
func oneSector(img []byte, top, middle, low, sector, at int) {
	setNode(img, top, 2, alone(sector/64, middle)...)
	setNode(img, middle, 1, alone(sector%64/8, low)...)
	setNode(img, low, 0, alone(sector%8, at)...)
}

// places tells what holds at places of a list, all others of it are 0.
type places map[int]int

// counts answers the counts of so many blocks, the slots once each and what l holds.
func counts(blocks int, l places) []int {
	out := make([]int, blocks)
	out[0], out[1] = 1, 1
	for at, n := range l {
		out[at] = n
	}
	return out
}

// usedOf and sharedOf answer what is to be told of these counts.
func usedOf(counts []int) int {
	zeros := 0
	for _, n := range counts {
		if n == 0 {
			zeros++
		}
	}
	return len(counts) - zeros
}

func sharedOf(counts []int) []int {
	var l []int
	for at, n := range counts {
		if n != 0 && n != 1 {
			l = append(l, at)
		}
	}
	return l
}

// hold holds all that is answered of img against these counts.
func hold(t *testing.T, name string, img []byte, want []int) {
	t.Helper()
	if l, e := Counts(img); !slices.Equal(l, want) || e != api.OK {
		t.Errorf("%s: Counts: %v, %d, want %v", name, l, e, want)
	}
	if n, e := Used(img); n != usedOf(want) || e != api.OK {
		t.Errorf("%s: Used: %d, %d, want %d", name, n, e, usedOf(want))
	}
	if l, e := Shared(img); !slices.Equal(l, sharedOf(want)) || e != api.OK {
		t.Errorf("%s: Shared: %v, %d, want %v", name, l, e, sharedOf(want))
	}
}

func holdRefused(t *testing.T, name string, img []byte, want api.Errno) {
	t.Helper()
	if l, e := Counts(img); len(l) != 0 || e != want {
		t.Errorf("%s: Counts: %v, %d, want %d", name, l, e, want)
	}
	if n, e := Used(img); n != 0 || e != want {
		t.Errorf("%s: Used: %d, %d, want %d", name, n, e, want)
	}
	if l, e := Shared(img); len(l) != 0 || e != want {
		t.Errorf("%s: Shared: %v, %d, want %d", name, l, e, want)
	}
}

func smallSuper() api.Super {
	return api.Super{Gen: 7, Root: 2, Size: 100, First: 10}
}

func smallRecords() []api.Record {
	return []api.Record{
		{Next: 12, Id: 40, Parent: 30, Root: 15, Size: 12, Kind: api.Pending, Frames: 9, Digest: 1<<32 - 1},
		{Next: 11, Id: 30, Parent: 20, Root: 2, Size: 512},
		{Next: 27, Id: 20, Root: 17, Size: 65},
		{Id: 1<<62 - 1, Parent: 20},
	}
}

func smallPlaces() []int {
	return []int{10, 12, 11, 27}
}

// small answers an image of 28 blocks: a head, a receive that stands open, three snapshots. The second record has the head's tree, the first and the third share nodes with it, the last one has none.
func small() []byte {
	img := device(28)
	setSuper(img, 1, smallSuper())
	for i, r := range smallRecords() {
		setRecord(img, smallPlaces()[i], r)
	}
	setNode(img, 2, 2, 3, 4)
	setNode(img, 3, 1, 5, 6)
	setNode(img, 4, 1, 0, 0, 0, 0, 7)
	setNode(img, 5, 0, 20, 21)
	setNode(img, 6, 0, 0, 22)
	setNode(img, 7, 0, 0, 0, 0, 23)
	setNode(img, 15, 2, 16)
	setNode(img, 16, 1, 5, 18)
	setNode(img, 18, 0, 0, 21, 0, 24)
	setNode(img, 17, 2, 3, 19)
	setNode(img, 19, 1, 8)
	setNode(img, 8, 0, 25)
	for at := 20; at <= 26; at++ {
		set(img, at, bytes.Repeat([]byte{byte(at)}, 64))
	}
	return img
}

func smallCounts() []int {
	return []int{1, 1, 2, 2, 1, 2, 1, 1, 1, 0, 1, 1, 1, 0, 0, 1, 1, 1, 1, 1, 1, 2, 1, 1, 1, 1, 0, 1}
}

// P12.1: the chapter's example.
func TestNewOfEight(t *testing.T) {
	img := laid(open.New(8))
	hold(t, "New(8)", img, []int{1, 1, 0, 0, 0, 0, 0, 0})
	n, e := Used(img)
	l, f := Shared(img)
	if n != 2 || len(l) != 0 || e != api.OK || f != api.OK {
		t.Errorf("New(8): %d, %v", n, l)
	}
}

// P12.1: images with no head and no records: Counts tells of as many blocks as the device has, the slots alone are reached.
func TestNewImages(t *testing.T) {
	for n := 4; n <= 4096; n++ {
		hold(t, "New of "+strconv.Itoa(n), laid(open.New(n)), counts(n, nil))
	}
}

// P12.1: an image with several records, one of them Pending: each number told by hand.
func TestSmall(t *testing.T) {
	img := small()
	hold(t, "small", img, smallCounts())
	if n, e := Used(img); n != 24 || e != api.OK {
		t.Errorf("Used: %d, %d", n, e)
	}
	if l, e := Shared(img); !slices.Equal(l, []int{2, 3, 5, 21}) || e != api.OK {
		t.Errorf("Shared: %v, %d", l, e)
	}
}

// P12.1: records that no way from the superblock leads to are not reached, nor is what they alone lead to.
func TestLaterFirsts(t *testing.T) {
	for first, want := range map[int]places{
		10: {2: 2, 3: 2, 4: 1, 5: 2, 6: 1, 7: 1, 8: 1, 10: 1, 11: 1, 12: 1, 15: 1, 16: 1, 17: 1, 18: 1, 19: 1, 20: 1, 21: 2, 22: 1, 23: 1, 24: 1, 25: 1, 27: 1},
		12: {2: 2, 3: 2, 4: 1, 5: 1, 6: 1, 7: 1, 8: 1, 11: 1, 12: 1, 17: 1, 19: 1, 20: 1, 21: 1, 22: 1, 23: 1, 25: 1, 27: 1},
		11: {2: 1, 3: 2, 4: 1, 5: 1, 6: 1, 7: 1, 8: 1, 11: 1, 17: 1, 19: 1, 20: 1, 21: 1, 22: 1, 23: 1, 25: 1, 27: 1},
		27: {2: 1, 3: 1, 4: 1, 5: 1, 6: 1, 7: 1, 20: 1, 21: 1, 22: 1, 23: 1, 27: 1},
		0:  {2: 1, 3: 1, 4: 1, 5: 1, 6: 1, 7: 1, 20: 1, 21: 1, 22: 1, 23: 1},
	} {
		img, s := small(), smallSuper()
		s.First = first
		setSuper(img, 1, s)
		hold(t, "first "+strconv.Itoa(first), img, counts(28, want))
	}
}

// P12.1: an image with a head and no records, its one sector's block at each sector.
func TestHeadAlone(t *testing.T) {
	for sector := range 512 {
		img := device(9)
		oneSector(img, 6, 3, 5, sector, 4)
		setSuper(img, 0, api.Super{Gen: 1, Root: 6, Size: sector + 1})
		hold(t, "sector "+strconv.Itoa(sector), img, counts(9, places{3: 1, 4: 1, 5: 1, 6: 1}))
	}
}

// P12.1: an image with one record, of each kind, with blocks and without; its block at each place.
func TestOneRecord(t *testing.T) {
	for _, r := range []api.Record{
		{Id: 1},
		{Id: 1<<62 - 1, Parent: 1, Size: 512},
		{Id: 9, Root: 5, Size: 76},
		{Id: 9, Parent: 8, Kind: api.Pending, Frames: 1},
		{Id: 9, Root: 5, Size: 512, Kind: api.Pending, Frames: 65535, Digest: 1<<32 - 1},
	} {
		for _, at := range []int{2, 3, 4, 9, 14, 15} {
			img := device(16)
			oneSector(img, 5, 6, 7, 75, 8)
			setRecord(img, at, r)
			setSuper(img, 0, api.Super{Gen: 1, First: at})
			want := places{at: 1}
			if r.Root != 0 {
				want = places{at: 1, 5: 1, 6: 1, 7: 1, 8: 1}
			}
			hold(t, "one record in block "+strconv.Itoa(at), img, counts(16, want))
		}
	}
}

// P12.1: a record's block is reached once, however many records there are, and whatever names its Id as a Parent; the first and the last one have a tree each, the others one.
func TestRecordsOnce(t *testing.T) {
	for n := 1; n <= 61; n++ {
		img, want := device(80), places{}
		for _, root := range []int{2, 6, 10} {
			oneSector(img, root, root+1, root+2, 75, root+3)
		}
		// From the last block down, so that no record lies behind the one that leads to it.
		for i := range n {
			r := api.Record{Next: 78 - i, Id: 7 + i, Parent: 6, Root: 6, Size: 512}
			switch i {
			case 0:
				r.Root = 2
				// 61 are no more than may be where the first one is Pending.
				if n == 61 {
					r.Kind, r.Frames = api.Pending, 1
				}
			case n - 1:
				r.Root, r.Next = 10, 0
			}
			if n == 1 {
				r.Next = 0
			}
			setRecord(img, 79-i, r)
			want[79-i] = 1
			want[r.Root]++
			want[r.Root+1], want[r.Root+2], want[r.Root+3] = 1, 1, 1
		}
		setSuper(img, 1, api.Super{Gen: 1, First: 79})
		hold(t, strconv.Itoa(n)+" records", img, counts(80, want))
	}
	img := device(8)
	setRecord(img, 5, api.Record{Next: 4, Id: 1, Parent: 2, Kind: api.Pending, Frames: 1})
	setRecord(img, 4, api.Record{Next: 3, Id: 2, Parent: 1})
	setRecord(img, 3, api.Record{Id: 3, Parent: 2})
	setSuper(img, 1, api.Super{Gen: 1, First: 5})
	hold(t, "Parents", img, counts(8, places{3: 1, 4: 1, 5: 1}))
}

// P12.1: roots that are the head's and a record's, several records', all ones'. What they lead to is counted once.
func TestSharedRoots(t *testing.T) {
	// Blocks 2 to 5 are one tree, 6 to 9 another one; the records lie from 10 on.
	for head := range 3 {
		for a := range 3 {
			for b := range 3 {
				for _, kind := range []int{api.Whole, api.Pending} {
					img := device(12)
					oneSector(img, 2, 3, 4, 9, 5)
					oneSector(img, 6, 7, 8, 300, 9)
					roots := []int{0, 2, 6}
					setSuper(img, 0, api.Super{Gen: 1, Root: roots[head], Size: 512, First: 10})
					setRecord(img, 10, api.Record{Next: 11, Id: 1, Root: roots[a], Size: 512, Kind: kind, Frames: kind})
					setRecord(img, 11, api.Record{Id: 2, Root: roots[b], Size: 400})
					want := places{10: 1, 11: 1}
					for _, tree := range []int{head, a, b} {
						if root := roots[tree]; root != 0 {
							want[root]++
							want[root+1], want[root+2], want[root+3] = 1, 1, 1
						}
					}
					name := "trees " + strconv.Itoa(head) + ", " + strconv.Itoa(a) + ", " + strconv.Itoa(b)
					hold(t, name, img, counts(12, want))
				}
			}
		}
	}
}

// P12.1: a root of 0, the head's and each record's, of any Size, 0 too: no pointer, so that it makes no slot reached again.
func TestNoRoots(t *testing.T) {
	for _, size := range []int{0, 1, 511, 512} {
		img := device(6)
		setSuper(img, 0, api.Super{Gen: 1, Size: size, First: 5})
		setRecord(img, 5, api.Record{Next: 3, Id: 1, Size: size, Kind: api.Pending, Frames: 1})
		setRecord(img, 3, api.Record{Id: 2, Size: size})
		hold(t, "no roots", img, counts(6, places{3: 1, 5: 1}))
	}
	// The Size is nothing to what is reached.
	for size := 100; size <= 512; size++ {
		img, s := small(), smallSuper()
		s.Size = size
		setSuper(img, 1, s)
		hold(t, "size "+strconv.Itoa(size), img, smallCounts())
	}
	img, s := small(), smallSuper()
	s.Root, s.Size = 0, 0
	setSuper(img, 1, s)
	want := smallCounts()
	want[2] = 1
	hold(t, "no head beside records", img, want)
}

// P12.1: a sector's block that is several sectors' of one tree: of one node, of several nodes, of nodes that lie far from each other.
func TestSectorsOfOneTree(t *testing.T) {
	for name, x := range map[string]struct {
		nodes [3][]int
		want  places
	}{
		"one sector":             {[3][]int{{9}}, places{9: 1}},
		"two of one node":        {[3][]int{{9, 9}}, places{9: 2}},
		"all of one node":        {[3][]int{{9, 9, 9, 9, 9, 9, 9, 9}}, places{9: 8}},
		"first and last":         {[3][]int{alone(0, 9), nil, alone(7, 9)}, places{9: 2}},
		"two nodes":              {[3][]int{{0, 9}, {9}}, places{9: 2}},
		"three nodes":            {[3][]int{{9, 9}, {0, 9}, {9, 0, 9, 9}}, places{9: 6}},
		"all of them":            {[3][]int{{9, 9, 9, 9, 9, 9, 9, 9}, {9, 9, 9, 9, 9, 9, 9, 9}, {9, 9, 9, 9, 9, 9, 9, 9}}, places{9: 24}},
		"two blocks":             {[3][]int{{9, 10, 9}, {10}, {10, 9}}, places{9: 3, 10: 3}},
		"each block in its node": {[3][]int{{9, 9}, {10, 10, 10}, {11}}, places{9: 2, 10: 3, 11: 1}},
	} {
		img := device(12)
		// Two nodes of level 1: the second one's only node is the third.
		setNode(img, 2, 2, 3, 0, 0, 0, 0, 0, 0, 4)
		setNode(img, 3, 1, 5, 0, 6)
		setNode(img, 4, 1, 0, 7)
		want := maps(x.want, places{2: 1, 3: 1, 4: 1, 5: 1, 6: 1, 7: 1})
		for i, ptr := range x.nodes {
			// A node leads to something: one that is not told, to block 8.
			if len(ptr) == 0 {
				ptr = []int{8}
				want[8]++
			}
			setNode(img, 5+i, 0, ptr...)
		}
		setSuper(img, 1, api.Super{Gen: 1, Root: 2, Size: 512})
		hold(t, name, img, counts(12, want))
	}
}

// maps answers what both hold.
func maps(a, b places) places {
	out := places{}
	for _, l := range []places{a, b} {
		for at, n := range l {
			out[at] = n
		}
	}
	return out
}

// P12.1: a sector's block that is several trees', by nodes of their own at each level: a node that is several trees' is reached by each, what is below it by it alone.
func TestSectorsOfSeveralTrees(t *testing.T) {
	for name, x := range map[string]struct {
		lay  func(img []byte)
		want places
	}{
		"all nodes of its own": {func(img []byte) { oneSector(img, 6, 7, 8, 75, 5) }, places{2: 1, 3: 1, 4: 1, 5: 2, 6: 1, 7: 1, 8: 1}},
		"at another sector":    {func(img []byte) { oneSector(img, 6, 7, 8, 511, 5) }, places{2: 1, 3: 1, 4: 1, 5: 2, 6: 1, 7: 1, 8: 1}},
		"at three sectors of its own": {func(img []byte) {
			oneSector(img, 6, 7, 8, 0, 5)
			setNode(img, 8, 0, 5, 5, 0, 0, 0, 0, 0, 5)
		}, places{2: 1, 3: 1, 4: 1, 5: 4, 6: 1, 7: 1, 8: 1}},
		"one node of level 0": {func(img []byte) {
			setNode(img, 6, 2, alone(1, 7)...)
			setNode(img, 7, 1, alone(1, 4)...)
		}, places{2: 1, 3: 1, 4: 2, 5: 1, 6: 1, 7: 1}},
		"one node of level 0, at another place": {func(img []byte) {
			setNode(img, 6, 2, alone(7, 7)...)
			setNode(img, 7, 1, alone(0, 4)...)
		}, places{2: 1, 3: 1, 4: 2, 5: 1, 6: 1, 7: 1}},
		"one node of level 0, and another one": {func(img []byte) {
			setNode(img, 6, 2, alone(1, 7)...)
			setNode(img, 7, 1, 8, 4)
			setNode(img, 8, 0, 5, 0, 5)
		}, places{2: 1, 3: 1, 4: 2, 5: 3, 6: 1, 7: 1, 8: 1}},
		"one node of level 1": {func(img []byte) { setNode(img, 6, 2, alone(1, 3)...) }, places{2: 1, 3: 2, 4: 1, 5: 1, 6: 1}},
		"one node of level 1, and others": {func(img []byte) {
			setNode(img, 6, 2, 7, 3)
			setNode(img, 7, 1, 0, 8)
			setNode(img, 8, 0, 5)
		}, places{2: 1, 3: 2, 4: 1, 5: 2, 6: 1, 7: 1, 8: 1}},
		"another block at that sector": {func(img []byte) { oneSector(img, 6, 7, 8, 75, 9) }, places{2: 1, 3: 1, 4: 1, 5: 1, 6: 1, 7: 1, 8: 1, 9: 1}},
	} {
		for _, kind := range []int{api.Whole, api.Pending} {
			img := device(14)
			oneSector(img, 2, 3, 4, 75, 5)
			x.lay(img)
			r := api.Record{Id: 1, Root: 6, Size: 512, Kind: kind, Frames: kind}
			setRecord(img, 10, r)
			setSuper(img, 0, api.Super{Gen: 1, Root: 2, Size: 76, First: 10})
			hold(t, name+", of the head and a record", img, counts(14, maps(x.want, places{10: 1})))

			// No head: two records' trees, another one behind them.
			r.Next = 13
			setRecord(img, 10, r)
			setRecord(img, 13, api.Record{Next: 12, Id: 2, Root: 2, Size: 76})
			setRecord(img, 12, api.Record{Id: 3})
			setSuper(img, 0, api.Super{Gen: 1, First: 10})
			hold(t, name+", of two records", img, counts(14, maps(x.want, places{10: 1, 12: 1, 13: 1})))

			// Both the roots are two trees' as well.
			setRecord(img, 12, api.Record{Id: 3, Root: 6, Size: 512})
			setSuper(img, 0, api.Super{Gen: 1, Root: 2, Size: 76, First: 10})
			hold(t, name+", of four trees", img, counts(14, maps(x.want, places{2: 2, 6: 2, 10: 1, 12: 1, 13: 1})))
		}
	}
}

// P12.1: two trees that share some nodes and not others, some sectors' blocks and not others.
func TestTreesThatShareInPart(t *testing.T) {
	img := device(32)
	setSuper(img, 0, api.Super{Gen: 3, Root: 2, Size: 512, First: 31})
	setRecord(img, 31, api.Record{Id: 1, Root: 3, Size: 512})
	// Both roots lead to 5, at one place of both, and to 6, at others.
	setNode(img, 2, 2, 4, 5, 6)
	setNode(img, 3, 2, 7, 5, 0, 0, 6)
	// 4 and 7 share 8, not 9 and 10.
	setNode(img, 4, 1, 8, 9)
	setNode(img, 7, 1, 8, 0, 10)
	setNode(img, 5, 1, 11, 12)
	setNode(img, 6, 1, alone(7, 13)...)
	setNode(img, 8, 0, 20, 21)
	// 9 and 10 share 22 and 23, not 24 and 25; 20, of 8 too, is the tree of 3's at two more sectors.
	setNode(img, 9, 0, 22, 23, 24)
	setNode(img, 10, 0, 22, 20, 23, 25, 20)
	// 26 is two sectors' of 11, one of 12, 24 is one of 13.
	setNode(img, 11, 0, 26, 0, 26)
	setNode(img, 12, 0, 0, 0, 0, 0, 26, 27)
	setNode(img, 13, 0, 24)
	hold(t, "in part", img, counts(32, places{2: 1, 3: 1, 4: 1, 5: 2, 6: 2, 7: 1, 8: 2, 9: 1, 10: 1, 11: 1, 12: 1, 13: 1, 20: 3, 21: 1, 22: 2, 23: 2, 24: 2, 25: 1, 26: 3, 27: 1, 31: 1}))
	if l, e := Shared(img); !slices.Equal(l, []int{5, 6, 8, 20, 22, 23, 24, 26}) || e != api.OK {
		t.Errorf("Shared: %v, %d", l, e)
	}
	if n, e := Used(img); n != 23 || e != api.OK {
		t.Errorf("Used: %d, %d", n, e)
	}
}

// P12.1: the first and the last block that may be reached, as a node of each level, as a sector's, as a record; also several times.
func TestBlocksAtBothEnds(t *testing.T) {
	for _, blocks := range []int{16, 17, 255, 256, 257, 4095, 4096} {
		for _, at := range []int{2, blocks - 1} {
			for what := range 5 {
				// What lies in block at, and what beside it.
				l := []int{3, 4, 5, 6, 7}
				l[what] = at
				img := device(blocks)
				oneSector(img, l[0], l[1], l[2], 300, l[3])
				setRecord(img, l[4], api.Record{Id: 1})
				setSuper(img, 1, api.Super{Gen: 1, Root: l[0], Size: 301, First: l[4]})
				want := counts(blocks, places{l[0]: 1, l[1]: 1, l[2]: 1, l[3]: 1, l[4]: 1})
				name := strconv.Itoa(what) + " in block " + strconv.Itoa(at) + " of " + strconv.Itoa(blocks)
				hold(t, name, img, want)

				// A second tree leads to it as well, by its nodes from 8 on.
				ptr := []int{8, 9, 10, l[3]}
				if what < 4 {
					ptr[what] = at
				}
				oneSector(img, ptr[0], ptr[1], ptr[2], 300, ptr[3])
				oneSector(img, l[0], l[1], l[2], 300, l[3])
				setRecord(img, l[4], api.Record{Id: 1, Root: ptr[0], Size: 512})
				for level := range 4 {
					want[ptr[level]]++
					if ptr[level] == l[level] {
						break
					}
				}
				hold(t, name+", twice", img, want)
			}
		}
	}
}

// P12.1: Shared tells a block of 2 and one of the last, rising, never a slot.
func TestSharedEnds(t *testing.T) {
	for _, blocks := range []int{12, 28, 256, 4096} {
		last := blocks - 1
		img := device(blocks)
		setSuper(img, 0, api.Super{Gen: 1, Root: last - 1, Size: 512, First: 5})
		setRecord(img, 5, api.Record{Id: 1, Root: last - 1, Size: 512})
		setNode(img, last-1, 2, 7)
		setNode(img, 7, 1, 6, 8)
		setNode(img, 6, 0, last, 2, last, 9)
		setNode(img, 8, 0, 2, 4)
		hold(t, "ends", img, counts(blocks, places{2: 2, 4: 1, 5: 1, 6: 1, 7: 1, 8: 1, 9: 1, last - 1: 2, last: 2}))
		if l, e := Shared(img); !slices.Equal(l, []int{2, last - 1, last}) || e != api.OK {
			t.Errorf("Shared of %d blocks: %v, %d", blocks, l, e)
		}
	}
}

// P12.1: the slots are reached once each, whichever of them hold a superblock; only what the one that stands leads to is reached.
func TestSlots(t *testing.T) {
	of := func(slot int) places {
		if slot == 0 {
			return places{2: 1, 3: 1, 4: 1, 5: 1, 6: 1}
		}
		return places{7: 1, 8: 1, 9: 1, 5: 1, 10: 1}
	}
	for _, x := range []struct{ gens, slot int }{{10, 0}, {1, 1}, {11, 0}, {21, 0}, {12, 1}} {
		img := device(12)
		oneSector(img, 2, 3, 4, 8, 5)
		oneSector(img, 7, 8, 9, 8, 5)
		setRecord(img, 6, api.Record{Id: 1, Root: 2, Size: 9})
		setRecord(img, 10, api.Record{Id: 1, Root: 7, Size: 9})
		if gen := x.gens / 10; gen > 0 {
			setSuper(img, 0, api.Super{Gen: gen, First: 6})
		}
		if gen := x.gens % 10; gen > 0 {
			setSuper(img, 1, api.Super{Gen: gen, First: 10})
		}
		name := "Gens " + strconv.Itoa(x.gens/10) + ", " + strconv.Itoa(x.gens%10)
		hold(t, name, img, counts(12, of(x.slot)))
		// The slot that does not stand holds any bytes.
		for _, b := range [][]byte{make([]byte, 64), bytes.Repeat([]byte{0xFF}, 64), nodeBlock(0, 2), laid(record.Bytes(api.Record{Id: 1}))} {
			set(img, 1-x.slot, b)
			hold(t, name, img, counts(12, of(x.slot)))
		}
	}
}

// P12.1: blocks that nothing leads to are not reached, and blocks that a sector leads to lead to nothing, whatever they hold.
func TestBlocksOfAnyBytes(t *testing.T) {
	for k, b := range [][]byte{
		make([]byte, 64), bytes.Repeat([]byte{0xFF}, 64), bytes.Repeat([]byte{1}, 64),
		laid(super.Bytes(api.Super{Gen: 9, Blocks: 28, Root: 2, Size: 512, First: 10})),
		laid(record.Bytes(api.Record{Id: 1, Root: 2, Next: 10})), laid(record.Bytes(smallRecords()[0])),
		nodeBlock(0, 20, 26), nodeBlock(1, 5, 6), nodeBlock(2, 3, 4), nodeBlock(0, 9), nodeBlock(0, 4095),
	} {
		img := small()
		for _, at := range []int{9, 13, 14, 26} {
			set(img, at, b)
		}
		hold(t, "blocks that nothing leads to, "+strconv.Itoa(k), img, smallCounts())
		for at := 20; at <= 25; at++ {
			set(img, at, b)
		}
		hold(t, "sectors' blocks, "+strconv.Itoa(k), img, smallCounts())
		setSuper(img, 1, api.Super{Gen: 9, Size: 512})
		set(img, 0, make([]byte, 64))
		hold(t, "no block is reached, "+strconv.Itoa(k), img, counts(28, nil))
	}
}

// P12.1: Used is how many are reached, not how often: beside the sum of Counts.
func TestUsedIsNoSum(t *testing.T) {
	img := device(12)
	setSuper(img, 0, api.Super{Gen: 1, Root: 2, Size: 512, First: 6})
	setNode(img, 2, 2, 3)
	setNode(img, 3, 1, 4)
	setNode(img, 4, 0, 5, 5, 5, 5, 5, 5, 5, 5)
	setRecord(img, 6, api.Record{Next: 7, Id: 1, Root: 2, Size: 512})
	setRecord(img, 7, api.Record{Id: 2, Root: 2, Size: 512})
	l, e := Counts(img)
	sum := 0
	for _, n := range l {
		sum += n
	}
	n, f := Used(img)
	if sum != 17 || n != 8 || e != api.OK || f != api.OK {
		t.Errorf("the sum of %v is %d, Used is %d", l, sum, n)
	}
}

// P12.1: the smallest device: no more than a head of no tree and records without one.
func TestSmallestDevice(t *testing.T) {
	img := device(4)
	setSuper(img, 0, api.Super{Gen: 1 << 40, Size: 512})
	hold(t, "no record", img, []int{1, 1, 0, 0})
	setRecord(img, 3, api.Record{Id: 1})
	setSuper(img, 0, api.Super{Gen: 1, First: 3})
	hold(t, "a record", img, []int{1, 1, 0, 1})
	setRecord(img, 2, api.Record{Next: 3, Id: 2, Kind: api.Pending, Frames: 1})
	setSuper(img, 0, api.Super{Gen: 1, First: 2})
	hold(t, "two records", img, []int{1, 1, 1, 1})
}

// P12.1: the greatest device, full: as many trees of all sectors as it has room for, each with nodes of its own, all sectors one block.
func TestGreatestDevice(t *testing.T) {
	const trees = 55
	img, want := device(4096), places{4095: trees * 512}
	at := 2
	take := func() int {
		want[at]++
		at++
		return at - 1
	}
	for i := range trees {
		root := take()
		var top []int
		for range 8 {
			var middle []int
			for range 8 {
				low := take()
				setNode(img, low, 0, slices.Repeat([]int{4095}, 8)...)
				middle = append(middle, low)
			}
			top = append(top, take())
			setNode(img, top[len(top)-1], 1, middle...)
		}
		setNode(img, root, 2, top...)
		r := api.Record{Next: 4094 - i - 1, Id: i + 1, Root: root, Size: 512}
		if i == trees-1 {
			r.Next = 0
		}
		setRecord(img, 4094-i, r)
		want[4094-i] = 1
	}
	setSuper(img, 1, api.Super{Gen: 1, First: 4094})
	hold(t, "the greatest device", img, counts(4096, want))
	setSuper(img, 1, api.Super{Gen: 1, Root: 2, Size: 512, First: 4094})
	want[2] = 2
	hold(t, "the greatest device with a head", img, counts(4096, want))
	// All records have one tree: its sectors' block is reached as often as without them.
	for i := range trees {
		r := api.Record{Next: 4094 - i - 1, Id: i + 1, Root: 2, Size: 512}
		if i == trees-1 {
			r.Next = 0
		}
		setRecord(img, 4094-i, r)
	}
	one := places{2: trees + 1, 4095: 512}
	for at := 3; at < 2+73; at++ {
		one[at] = 1
	}
	for i := range trees {
		one[4094-i] = 1
	}
	hold(t, "one tree of all", img, counts(4096, one))
}

// withSnapshot answers img with one more record in a free block, of the head's tree, ahead of the other snapshots.
func withSnapshot(img []byte, s api.State, at, id int) []byte {
	out := slices.Clone(img)
	r := api.Record{Next: s.Super.First, Id: id, Root: s.Super.Root, Size: s.Super.Size}
	// A Pending one stays the first.
	if len(s.Records) > 0 && s.Records[0].Kind == api.Pending {
		first := s.Records[0]
		r.Next, first.Next = first.Next, at
		setRecord(out, s.Super.First, first)
		setRecord(out, at, r)
		return out
	}
	setRecord(out, at, r)
	s.Super.First = at
	s.Super.Gen++
	setSuper(out, 1-s.Slot, s.Super)
	return out
}

// holdSnapshot holds what a snapshot of img's head in block at adds: that block, and one pointer to the root.
func holdSnapshot(t *testing.T, name string, img []byte, at, id int) {
	t.Helper()
	s, e := open.Open(img)
	want, f := Counts(img)
	if e != api.OK || f != api.OK || len(want) != len(img)/64 || want[at] != 0 {
		t.Fatalf("%s: %d, %d, %v", name, e, f, want)
	}
	used, _ := Used(img)
	want[at] = 1
	if s.Super.Root != 0 {
		want[s.Super.Root]++
	}
	after := withSnapshot(img, s, at, id)
	hold(t, name, after, want)
	if n, e := Used(after); n != used+1 || e != api.OK {
		t.Errorf("%s: %d blocks are used, ahead of it %d", name, n, used)
	}
}

// P12.2: a snapshot of the head adds one block: where there is none yet, where there are others, behind a Pending one; twice.
func TestSnapshotOfTheHead(t *testing.T) {
	head := device(12)
	oneSector(head, 4, 5, 6, 75, 7)
	setSuper(head, 0, api.Super{Gen: 1, Root: 4, Size: 76})
	full := device(90)
	setNode(full, 2, 2, 3)
	setNode(full, 3, 1, 4, 5, 6, 7, 8, 9, 10, 11)
	for i := range 8 {
		setNode(full, 4+i, 0, 12+8*i, 13+8*i, 14+8*i, 15+8*i, 16+8*i, 17+8*i, 18+8*i, 19+8*i)
	}
	setSuper(full, 1, api.Super{Gen: 5, Root: 2, Size: 64})
	for name, x := range map[string]struct {
		img  []byte
		free []int
	}{
		"a new image":      {laid(open.New(8)), []int{2, 3, 7}},
		"a head":           {head, []int{2, 3, 8, 11}},
		"a head of blocks": {full, []int{76, 77, 89}},
		"small":            {small(), []int{9, 13, 14, 26}},
	} {
		for _, at := range x.free {
			holdSnapshot(t, name, x.img, at, 5)
		}
		img := x.img
		for k, at := range x.free {
			holdSnapshot(t, name+", again", img, at, 5+k)
			s, _ := open.Open(img)
			img = withSnapshot(img, s, at, 5+k)
		}
	}
	hold(t, "a head's snapshot", withSnapshot(head, api.State{Super: api.Super{Gen: 1, Root: 4, Size: 76}}, 9, 5), []int{1, 1, 0, 0, 2, 1, 1, 1, 0, 1, 0, 0})
}

// P12.1: a device that dev.Check refuses, whatever it holds.
func TestRefusedDevices(t *testing.T) {
	whole := device(4098)
	copy(whole, small())
	holdRefused(t, "nil", nil, api.ErrLen)
	holdRefused(t, "no bytes", []byte{}, api.ErrLen)
	for _, size := range []int{1, 63, 64, 65, 128, 192, 255, 257, 28*64 - 1, 28*64 + 1, 4096*64 - 1, 4096*64 + 1, 4097 * 64, 4098 * 64} {
		holdRefused(t, "a device of another size", whole[:size], api.ErrLen)
		holdRefused(t, "zeros of another size", make([]byte, size), api.ErrLen)
	}
	// One of as many blocks as may be, and of more.
	setSuper(whole[:4096*64], 0, api.Super{Gen: 9})
	hold(t, "4096 blocks", whole[:4096*64], counts(4096, nil))
	holdRefused(t, "4097 blocks", whole[:4097*64], api.ErrLen)
}

// P12.1: ErrImage: no slot holds a superblock of this device.
func TestNoImages(t *testing.T) {
	for _, blocks := range []int{4, 5, 28, 4096} {
		holdRefused(t, "zeros", device(blocks), api.ErrImage)
		holdRefused(t, "ones", bytes.Repeat([]byte{0xFF}, blocks*64), api.ErrImage)
	}
	img := small()
	img[64+4] ^= 1
	holdRefused(t, "another Gen", img, api.ErrImage)
	holdRefused(t, "another device's", append(small(), device(1)...), api.ErrImage)
	holdRefused(t, "another device's", small()[:27*64], api.ErrImage)
}

// P12.1: ErrRecord: each record of small, broken; and records that may not stand so.
func TestRecordsThatMayNotBe(t *testing.T) {
	for i, at := range smallPlaces() {
		for _, b := range [][]byte{make([]byte, 64), bytes.Repeat([]byte{0xFF}, 64), nodeBlock(0, 2)} {
			img := small()
			set(img, at, b)
			holdRefused(t, "record "+strconv.Itoa(i), img, api.ErrRecord)
		}
		for _, next := range append(smallPlaces()[:i+1], 2, 9, 20, 28, 4095) {
			img, r := small(), smallRecords()[i]
			r.Next = next
			setRecord(img, at, r)
			holdRefused(t, "record "+strconv.Itoa(i)+", next "+strconv.Itoa(next), img, api.ErrRecord)
		}
	}
	img := small()
	setRecord(img, 27, api.Record{Id: 40})
	holdRefused(t, "an Id twice", img, api.ErrRecord)
	setRecord(img, 27, api.Record{Id: 41, Kind: api.Pending, Frames: 1})
	holdRefused(t, "a Pending one that is not the first", img, api.ErrRecord)
	img = device(80)
	for i := range 61 {
		setRecord(img, 5+i, api.Record{Next: 6 + i, Id: 1 + i})
	}
	setRecord(img, 65, api.Record{Id: 61})
	setSuper(img, 0, api.Super{Gen: 1, First: 5})
	holdRefused(t, "61 records", img, api.ErrRecord)
}

// P12.1: ErrTree: each node of small, broken; roots that are none; sectors from the Size on; blocks of two uses.
func TestTreesThatMayNotBe(t *testing.T) {
	for _, at := range []int{2, 3, 4, 5, 6, 7, 8, 15, 16, 17, 18, 19} {
		for _, b := range [][]byte{make([]byte, 64), nodeBlock(0, 28), nodeBlock(1, 28), nodeBlock(2, 28), nodeBlock(2, at), nodeBlock(1, at), nodeBlock(0, at), laid(record.Bytes(api.Record{Id: 1}))} {
			img := small()
			set(img, at, b)
			holdRefused(t, "node "+strconv.Itoa(at), img, api.ErrTree)
		}
	}
	for name, lay := range map[string]func(img []byte){
		"the head's root is a node of level 1": func(img []byte) { setSuper(img, 1, api.Super{Gen: 7, Root: 3, Size: 512}) },
		"a root beyond the device": func(img []byte) {
			setRecord(img, 27, api.Record{Id: 1, Root: 28, Size: 512})
		},
		"the head's Size":                  func(img []byte) { setSuper(img, 1, api.Super{Gen: 7, Root: 2, Size: 99, First: 10}) },
		"the head's Size is 0":             func(img []byte) { setSuper(img, 1, api.Super{Gen: 7, Root: 2, First: 10}) },
		"a record's Size":                  func(img []byte) { setRecord(img, 27, api.Record{Id: 1, Root: 2, Size: 99}) },
		"a record's Size is 0":             func(img []byte) { setRecord(img, 27, api.Record{Id: 1, Root: 2}) },
		"a node twice in one tree":         func(img []byte) { setNode(img, 16, 1, 5, 18, 5) },
		"a node as its own tree's sector":  func(img []byte) { setNode(img, 7, 0, 2, 0, 0, 0, 23) },
		"a node as another tree's sector":  func(img []byte) { setNode(img, 18, 0, 4, 21, 0, 24) },
		"a record as a sector":             func(img []byte) { setNode(img, 18, 0, 27, 21, 0, 24) },
		"a sector's block as a record":     func(img []byte) { setNode(img, 18, 0, 10, 21, 0, 24) },
		"a record as a root":               func(img []byte) { setRecord(img, 27, api.Record{Id: 1, Root: 10, Size: 512}) },
		"another tree's sector as a node":  func(img []byte) { setNode(img, 25, 0, 26); setNode(img, 19, 1, 8, 25) },
		"another tree's sector, as a root": func(img []byte) { setNode(img, 20, 2, 3); setRecord(img, 27, api.Record{Id: 1, Root: 20, Size: 512}) },
	} {
		img := small()
		lay(img)
		holdRefused(t, name, img, api.ErrTree)
	}
}

// P12.1: which error comes first, where several would do.
func TestOrderOfErrors(t *testing.T) {
	noTree := func(img []byte) { img[18*64+9] ^= 1 }
	noRecord := func(img []byte) { img[27*64+9] ^= 1 }
	noSuper := func(img []byte) { img[64+5] ^= 1 }
	img := small()
	for _, x := range []struct {
		fault func(img []byte)
		e     api.Errno
	}{{noTree, api.ErrTree}, {noRecord, api.ErrRecord}, {noSuper, api.ErrImage}} {
		x.fault(img)
		holdRefused(t, "one fault more", img, x.e)
		holdRefused(t, "a byte less", img[:len(img)-1], api.ErrLen)
		holdRefused(t, "a byte more", append(slices.Clone(img), 0), api.ErrLen)
	}
}

// T4: each bit of an image, changed: it is refused as open.Open refuses it, or its counts are the same.
func TestEveryBit(t *testing.T) {
	img := small()
	for at := range len(img) {
		for bit := range 8 {
			img[at] ^= 1 << bit
			name := "byte " + strconv.Itoa(at) + ", bit " + strconv.Itoa(bit)
			switch _, e := open.Open(img); {
			case e != api.OK:
				holdRefused(t, name, img, e)
			case at >= 64 && smallCounts()[at/64] > 0 && (at < 20*64 || at >= 26*64):
				t.Errorf("%s: an image with a broken block opens", name)
			default:
				hold(t, name, img, smallCounts())
			}
			img[at] ^= 1 << bit
		}
	}
}

// T4: every length of an image that is cut off.
func TestCutImages(t *testing.T) {
	img := small()
	for size := range len(img) {
		want := api.ErrLen
		if size%64 == 0 && size >= 256 {
			want = api.ErrImage
		}
		holdRefused(t, "cut off at "+strconv.Itoa(size), img[:size], want)
	}
}

// pointer is one of an image: which block it lies in, as which of this.
type pointer struct{ block, place int }

// modelCounts answers the counts of a sound image by other means than the program's: it goes from each root to each sector alone, and gathers the pointers that it meets on all these ways.
func modelCounts(img []byte, s api.State) []int {
	word := func(block, place int) int { return int(binary.LittleEndian.Uint32(img[block*64+place*4:])) }
	met := map[pointer]int{}
	follow := func(p pointer, at int) {
		for sector := range 512 {
			met[p] = at
			way, to := p, at
			for _, below := range []int{64, 8, 1} {
				if to == 0 {
					break
				}
				way = pointer{to, 2 + sector/below%8}
				to = word(way.block, way.place)
				met[way] = to
			}
		}
	}
	follow(pointer{s.Slot, 4}, word(s.Slot, 4))
	met[pointer{s.Slot, 6}] = word(s.Slot, 6)
	for at := word(s.Slot, 6); at != 0; at = word(at, 1) {
		met[pointer{at, 1}] = word(at, 1)
		follow(pointer{at, 6}, word(at, 6))
	}
	l := counts(len(img)/64, nil)
	for _, to := range met {
		if to != 0 {
			l[to]++
		}
	}
	return l
}

// dice answers numbers below n, the same ones in each run.
func dice() func(n int) int {
	x := uint64(88172645463325252)
	return func(n int) int {
		x ^= x << 13
		x ^= x >> 7
		x ^= x << 17
		return int(x >> 33 % uint64(n))
	}
}

// thrown answers an image whose blocks are mostly of a right kind each: blocks of each kind lead to ones of the kind that they ask, but for some throws.
func thrown(roll func(n int) int) []byte {
	blocks := 24 + roll(24)
	img := device(blocks)
	// Which blocks are of which kind: nodes of level 0, 1 and 2, sectors' blocks, records.
	kinds := make([][]int, 5)
	for at := 2; at < blocks; at++ {
		k := []int{0, 0, 0, 1, 1, 2, 2, 3, 3, 4}[roll(10)]
		kinds[k] = append(kinds[k], at)
	}
	of := func(k int) int {
		if roll(400) == 0 || len(kinds[k]) == 0 {
			return 2 + roll(blocks)
		}
		return kinds[k][roll(len(kinds[k]))]
	}
	root := func() int {
		if roll(4) == 0 {
			return 0
		}
		return of(2)
	}
	size := func() int { return []int{512, 512, 512, 512, 512, 512, 512, roll(513)}[roll(8)] }
	for level := range 3 {
		for _, at := range kinds[level] {
			var ptr [8]int
			for range []int{1 + roll(6), 1 + roll(2), 1 + roll(2)}[level] {
				ptr[roll(8)] = of([]int{3, 0, 1}[level])
			}
			setNode(img, at, level, ptr[:]...)
		}
	}
	slices.Reverse(kinds[4][:len(kinds[4])/2])
	for i, at := range kinds[4] {
		r := api.Record{Id: 1 + i, Parent: 77, Root: root(), Size: size()}
		if i+1 < len(kinds[4]) {
			r.Next = kinds[4][i+1]
		} else if roll(20) == 0 {
			r.Next = of(4)
		}
		if i == 0 && roll(3) == 0 || roll(60) == 0 {
			r.Kind, r.Frames, r.Digest = api.Pending, 1+roll(9), roll(9)
		}
		setRecord(img, at, r)
	}
	for slot := range 2 {
		if roll(5) == 0 {
			continue
		}
		s := api.Super{Gen: 1 + roll(4), Root: min(root(), blocks-1), Size: size()}
		if len(kinds[4]) > 0 && roll(5) > 0 {
			s.First = kinds[4][roll(len(kinds[4]))]
		}
		setSuper(img, slot, s)
	}
	if roll(10) == 0 {
		img[roll(len(img))] ^= 1
	}
	return img
}

// T4, P12.1, P12.2: images whose blocks are thrown: refused as open.Open refuses them, or held against the model, and a snapshot of their head against them.
func TestThrownImages(t *testing.T) {
	roll := dice()
	met := map[api.Errno]int{}
	records, shared := 0, 0
	for range 6000 {
		img := thrown(roll)
		s, e := open.Open(img)
		met[e]++
		if e != api.OK {
			holdRefused(t, "a thrown image", img, e)
			continue
		}
		want := modelCounts(img, s)
		hold(t, "a thrown image", img, want)
		if at := slices.Index(want, 0); at > 0 {
			holdSnapshot(t, "a thrown image's head", img, at, 1000)
		}
		if len(s.Records) > 1 {
			records++
		}
		if len(sharedOf(want)) > 1 {
			shared++
		}
	}
	for _, e := range []api.Errno{api.OK, api.ErrImage, api.ErrRecord, api.ErrTree} {
		if met[e] < 150 {
			t.Errorf("only %d images were thrown with %d", met[e], e)
		}
	}
	if records < 1000 || shared < 1000 {
		t.Errorf("only %d of several records, %d of several shared blocks", records, shared)
	}
}

// T4: images of bytes that are thrown are refused.
func TestThrownBytes(t *testing.T) {
	roll := dice()
	for range 300 {
		img := device(4 + roll(60))
		for at := range img {
			img[at] = byte(roll(256))
		}
		for at := range len(img) / 64 {
			copy(img[at*64:], []string{"WCUT", "SNAP", "NODE", ""}[roll(4)])
		}
		holdRefused(t, "thrown bytes", img, api.ErrImage)
		setSuper(img, 0, api.Super{Gen: 1, First: 2, Root: 2})
		holdRefused(t, "thrown bytes behind a superblock", img, api.ErrRecord)
		setSuper(img, 0, api.Super{Gen: 1, Root: 2, Size: 512})
		holdRefused(t, "thrown bytes behind a superblock", img, api.ErrTree)
		// Thrown bytes that nothing leads to are no part of the image.
		setSuper(img, 0, api.Super{Gen: 1, Size: 512})
		hold(t, "thrown bytes that nothing leads to", img, counts(len(img)/64, nil))
	}
}

// spared answers b with room behind that is full of c.
func spared(b []byte, c byte) []byte {
	return append(slices.Clone(b), bytes.Repeat([]byte{c}, 4096)...)[:len(b)]
}

// R2, R3, R6: no argument is changed, its spare room neither, and what lies behind a device is not read.
func TestArgumentsStay(t *testing.T) {
	broken := small()
	setNode(broken, 18, 0, 27)
	for _, img := range [][]byte{small(), broken, small()[:27*64], small()[:100], device(4), nil} {
		want, e := Counts(slices.Clip(slices.Clone(img)))
		for _, c := range []byte{0, 0xFF} {
			b := spared(img, c)
			if e == api.OK {
				hold(t, "a device with room", b, want)
			} else {
				holdRefused(t, "a device with room", b, e)
			}
			if !bytes.Equal(b, img) || !bytes.Equal(b[len(b):len(b)+4096], bytes.Repeat([]byte{c}, 4096)) {
				t.Errorf("a device of %d bytes is changed", len(img))
			}
		}
	}
	// The record that the short device lacks stands in its room.
	room := small()
	setSuper(room[:27*64], 1, smallSuper())
	holdRefused(t, "a record in the room", room[:27*64], api.ErrRecord)
}

// scrawl writes all over l, its spare room too.
func scrawl[T any](l []T, with T) {
	l = l[:cap(l)]
	for i := range l {
		l[i] = with
	}
}

// R2, R3: each answer is memory of its own, and nothing of a call is kept.
func TestAnswersAreNew(t *testing.T) {
	img := small()
	counted, _ := Counts(img)
	shared, _ := Shared(img)
	for _, call := range []func(img []byte) ([]int, api.Errno){Counts, Shared} {
		l, _ := call(img)
		scrawl(l, math.MinInt)
		hold(t, "a call behind one that is written over", img, smallCounts())
	}
	if !bytes.Equal(img, small()) {
		t.Error("an answer shares memory with its device")
	}
	holdRefused(t, "a refused call", device(4), api.ErrImage)
	hold(t, "a call behind a refused one", img, smallCounts())
	scrawl(img, 0xFF)
	if !slices.Equal(counted, smallCounts()) || !slices.Equal(shared, []int{2, 3, 5, 21}) {
		t.Error("an answer shares memory with its device, or with another one")
	}
	holdRefused(t, "a device that is written over", img, api.ErrImage)
}
