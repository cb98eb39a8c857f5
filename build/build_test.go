package build

import (
	"bytes"
	"encoding/binary"
	"hash/crc32"
	"math"
	"slices"
	"strconv"
	"testing"

	"woodcut/api"
	"woodcut/dev"
	"woodcut/tree"
)

var table = crc32.MakeTable(crc32.Castagnoli)

// laid answers the block of a node of these numbers, right ones or not, by other means than the program's.
func laid(level int, ptr [8]int) []byte {
	b := []byte{'N', 'O', 'D', 'E'}
	b = binary.LittleEndian.AppendUint32(b, uint32(level))
	for _, n := range ptr {
		b = binary.LittleEndian.AppendUint32(b, uint32(n))
	}
	b = append(b, make([]byte, 20)...)
	return binary.LittleEndian.AppendUint32(b, crc32.Checksum(b, table))
}

// device answers one of so many blocks, all zeros.
func device(blocks int) []byte {
	return make([]byte, blocks*64)
}

// set lays b into block at of img.
func set(img []byte, at int, b []byte) {
	copy(img[at*64:(at+1)*64], b)
}

// lay lays a node into block at of img.
func lay(img []byte, at, level int, ptr ...int) {
	var all [8]int
	copy(all[:], ptr)
	set(img, at, laid(level, all))
}

// put is a step that lays a node.
func put(at, level int, ptr ...int) api.Io {
	var all [8]int
	copy(all[:], ptr)
	return api.Io{Kind: api.IoWrite, At: at, Data: laid(level, all)}
}

// alone answers eight pointers, all 0 but the one at place i.
func alone(i, at int) []int {
	ptr := make([]int, 8)
	ptr[i] = at
	return ptr
}

// mapOf answers a map of sectors and their blocks, one behind the other.
func mapOf(l ...int) []int {
	m := make([]int, 512)
	for i := 0; i+1 < len(l); i += 2 {
		m[l[i]] = l[i+1]
	}
	return m
}

// with answers m with other blocks for some sectors: sector and block, one behind the other.
func with(m []int, l ...int) []int {
	out := slices.Clone(m)
	for i := 0; i+1 < len(l); i += 2 {
		out[l[i]] = l[i+1]
	}
	return out
}

// span answers the numbers from from on, ahead of to.
func span(from, to int) []int {
	var l []int
	for n := from; n < to; n++ {
		l = append(l, n)
	}
	return l
}

// small answers a device of 32 blocks with a tree whose root is block 9: sectors 0 and 7 below nodes 4 and 12, 9 below 4 and 3, 136 to 138 below 15 and 20, 191 below 15 and 6.
func small() []byte {
	img := device(32)
	lay(img, 9, 2, 4, 0, 15)
	lay(img, 4, 1, 12, 3)
	lay(img, 12, 0, 21, 0, 0, 0, 0, 0, 0, 5)
	lay(img, 3, 0, 0, 23)
	lay(img, 15, 1, 0, 20, 0, 0, 0, 0, 0, 6)
	lay(img, 6, 0, 0, 0, 0, 0, 0, 0, 0, 2)
	lay(img, 20, 0, 21, 22, 21)
	return img
}

func smallMap() []int {
	return mapOf(0, 21, 7, 5, 9, 23, 136, 21, 137, 22, 138, 21, 191, 2)
}

// smallFree are all blocks of small that neither its tree nor block 30 and 31, which the tests give to sectors, take.
func smallFree() []int {
	return []int{7, 8, 10, 11, 13, 14, 16, 17, 18, 19, 24, 25, 26, 27, 28, 29}
}

// one answers a device of 16 blocks whose tree, of root 2, has one sector, in block 5.
func one(sector int) []byte {
	img := device(16)
	lay(img, 2, 2, alone(sector/64, 3)...)
	lay(img, 3, 1, alone(sector%64/8, 4)...)
	lay(img, 4, 0, alone(sector%8, 5)...)
	return img
}

// full answers a device of 700 blocks whose tree, of root 2, has all sectors: the nodes of level 1 from 3 on, those of level 0 from 11 on, the sectors from 75 on.
func full() []byte {
	img := device(700)
	lay(img, 2, 2, span(3, 11)...)
	for i := range 8 {
		lay(img, 3+i, 1, span(11+8*i, 19+8*i)...)
	}
	for i := range 64 {
		lay(img, 11+i, 0, span(75+8*i, 83+8*i)...)
	}
	return img
}

// fullFree are the free blocks of full.
func fullFree() []int {
	return span(587, 700)
}

// far are numbers that are no block of any device, some of which would be one if they wrapped.
func far() []int {
	return []int{
		math.MinInt, math.MinInt + 2, -1 << 62, -1 << 32, -1<<32 + 2, -1<<32 + 9, -4096, -9, -2, -1,
		4096, 4097, 1<<16 + 9, 1 << 31, 1<<32 + 2, 1<<32 + 9, 1<<58 + 9, 1 << 62, math.MaxInt - 1, math.MaxInt,
	}
}

// way answers where one goes from a root to a sector: the root, what it leads to, what that leads to, the sector's block. It is told here by other means than the program's, and asked of trees alone.
func way(img []byte, root, sector int) [4]int {
	l := [4]int{root}
	for i, below := range []int{64, 8, 1} {
		if l[i] != 0 {
			l[i+1] = int(binary.LittleEndian.Uint32(img[l[i]*64+8+4*(sector/below%8):]))
		}
	}
	return l
}

// model answers the chapter's new tree, node by node, and whether there are enough blocks for it.
func model(img []byte, old int, m, free []int) (root int, l []api.Io, rest []int, ok bool) {
	was := make([][4]int, 512)
	for s := range was {
		was[s] = way(img, old, s)
	}
	// under answers what stands for those sectors from that one on: a sector's block, or a node.
	nodes := map[[2]int]int{}
	under := func(from, count int) int {
		if count == 1 {
			return m[from]
		}
		return nodes[[2]int{from, count}]
	}
	rest = free
	for level, count := range []int{8, 64, 512} {
		for from := 0; from < 512; from += count {
			some, same := false, true
			for s := from; s < from+count; s++ {
				some = some || m[s] != 0
				same = same && m[s] == was[s][3]
			}
			if !some {
				continue
			}
			if same {
				nodes[[2]int{from, count}] = was[from][2-level]
				continue
			}
			if len(rest) == 0 {
				return 0, nil, nil, false
			}
			var ptr [8]int
			for i := range ptr {
				ptr[i] = under(from+i*count/8, count/8)
			}
			nodes[[2]int{from, count}] = rest[0]
			l = append(l, api.Io{Kind: api.IoWrite, At: rest[0], Data: laid(level, ptr)})
			rest = rest[1:]
		}
	}
	return under(0, 512), l, rest, true
}

func sameSteps(a, b []api.Io) bool {
	return slices.EqualFunc(a, b, func(x, y api.Io) bool {
		return x.Kind == y.Kind && x.At == y.At && bytes.Equal(x.Data, y.Data)
	})
}

// show tells writes in short: where, of which level, to what.
func show(l []api.Io) string {
	out := ""
	for _, x := range l {
		out += strconv.Itoa(x.Kind) + ": " + strconv.Itoa(x.At) + " <-"
		for at := 4; at+4 <= len(x.Data) && at < 40; at += 4 {
			out += " " + strconv.Itoa(int(binary.LittleEndian.Uint32(x.Data[at:])))
		}
		out += "; "
	}
	return out
}

// holdTree holds both calls against what is to be told of a new tree.
func holdTree(t *testing.T, img []byte, old int, m, free []int, root int, l []api.Io, rest []int) {
	t.Helper()
	if n, e := Needs(img, old, m); n != len(l) || e != api.OK {
		t.Errorf("Needs beside root %d: %d, %d, want %d", old, n, e, len(l))
	}
	r, got, left, e := Tree(img, old, m, free)
	if r != root || !sameSteps(got, l) || !slices.Equal(left, rest) || e != api.OK {
		t.Errorf("Tree beside root %d: %d, %s, %v, %d, want %d, %s, %v", old, r, show(got), left, e, root, show(l), rest)
	}
}

// holdModel holds both calls against the model, and what is written against the maps. It answers the new root and the device that it stands on.
func holdModel(t *testing.T, img []byte, old int, m, free []int) (int, []byte) {
	t.Helper()
	root, l, rest, ok := model(img, old, m, free)
	if !ok {
		t.Fatalf("%d free blocks are too few", len(free))
	}
	holdTree(t, img, old, m, free, root, l, rest)
	return root, holdWritten(t, img, old, m, free)
}

// holdWritten holds what stands once it is written: the new root's map, and the old one's. It answers the device.
func holdWritten(t *testing.T, img []byte, old int, m, free []int) []byte {
	t.Helper()
	before, _ := tree.Map(img, old)
	root, l, _, _ := Tree(img, old, m, free)
	out, e := dev.Apply(img, l)
	if e != api.OK {
		t.Errorf("beside root %d: what is written is refused: %d", old, e)
	}
	if got, e := tree.Map(out, root); !slices.Equal(got, m) || e != api.OK {
		t.Errorf("beside root %d: root %d, written, has %v, %d, want %v", old, root, got, e, m)
	}
	if got, e := tree.Map(out, old); !slices.Equal(got, before) || e != api.OK {
		t.Errorf("beside root %d: its map is another one, %d", old, e)
	}
	return out
}

// holdRefused holds both calls against an error, and against anything beside it.
func holdRefused(t *testing.T, img []byte, old int, m, free []int, want api.Errno) {
	t.Helper()
	if n, e := Needs(img, old, m); n != 0 || e != want {
		t.Errorf("Needs beside root %d: %d, %d, want %d", old, n, e, want)
	}
	treeRefused(t, img, old, m, free, want)
}

// treeRefused holds Tree alone: what is free is no matter of Needs.
func treeRefused(t *testing.T, img []byte, old int, m, free []int, want api.Errno) {
	t.Helper()
	if root, l, rest, e := Tree(img, old, m, free); root != 0 || len(l)+len(rest) != 0 || e != want {
		t.Errorf("Tree beside root %d, free %v: %d, %s, %v, %d, want %d", old, free, root, show(l), rest, e, want)
	}
}

// holdNeeds holds Needs against a number, and what Tree writes as well.
func holdNeeds(t *testing.T, img []byte, old int, m, free []int, want int) {
	t.Helper()
	if n, e := Needs(img, old, m); n != want || e != api.OK {
		t.Errorf("Needs beside root %d: %d, %d, want %d", old, n, e, want)
	}
	if _, l, rest, e := Tree(img, old, m, free); len(l) != want || len(rest) != len(free)-want || e != api.OK {
		t.Errorf("Tree beside root %d: %d writes, %d left, %d, want %d", old, len(l), len(rest), e, want)
	}
}

// P14.1: the chapter's example: one sector changed, at most three new nodes.
func TestExample(t *testing.T) {
	img, m := full(), span(75, 587)
	for s := range 512 {
		holdNeeds(t, img, 2, with(m, s, 699), fullFree()[:112], 3)
		holdNeeds(t, img, 2, with(m, s, 0), fullFree(), 3)
		holdNeeds(t, img, 2, with(m, s, 75+s), fullFree(), 0)
	}
	img, m = small(), smallMap()
	for s := range 512 {
		for _, at := range []int{0, 2, 21, 30, 31} {
			if n, e := Needs(img, 9, with(m, s, at)); n > 3 || e != api.OK {
				t.Errorf("sector %d changed to %d: %d new nodes, %d", s, at, n, e)
			}
		}
	}
}

// P14.1: new trees told by hand.
func TestByHand(t *testing.T) {
	img, m, free := small(), smallMap(), smallFree()
	for name, x := range map[string]struct {
		old  int
		m    []int
		root int
		l    []api.Io
	}{
		"the old map":               {9, m, 9, nil},
		"the old map, no old tree":  {0, mapOf(), 0, nil},
		"no sector":                 {9, mapOf(), 0, nil},
		"a sector of several":       {9, with(m, 0, 30), 10, []api.Io{put(7, 0, 30, 0, 0, 0, 0, 0, 0, 5), put(8, 1, 7, 3), put(10, 2, 8, 0, 15)}},
		"another of these":          {9, with(m, 7, 30), 10, []api.Io{put(7, 0, 21, 0, 0, 0, 0, 0, 0, 30), put(8, 1, 7, 3), put(10, 2, 8, 0, 15)}},
		"both of these":             {9, with(m, 0, 30, 7, 31), 10, []api.Io{put(7, 0, 30, 0, 0, 0, 0, 0, 0, 31), put(8, 1, 7, 3), put(10, 2, 8, 0, 15)}},
		"both, the other way about": {9, with(m, 0, 5, 7, 21), 10, []api.Io{put(7, 0, 5, 0, 0, 0, 0, 0, 0, 21), put(8, 1, 7, 3), put(10, 2, 8, 0, 15)}},
		"a sector more":             {9, with(m, 4, 30), 10, []api.Io{put(7, 0, 21, 0, 0, 0, 30, 0, 0, 5), put(8, 1, 7, 3), put(10, 2, 8, 0, 15)}},
		"a sector less":             {9, with(m, 7, 0), 10, []api.Io{put(7, 0, 21), put(8, 1, 7, 3), put(10, 2, 8, 0, 15)}},
		"none under one of level 0": {9, with(m, 9, 0), 8, []api.Io{put(7, 1, 12), put(8, 2, 7, 0, 15)}},
		"none under another":        {9, with(m, 191, 0), 8, []api.Io{put(7, 1, 0, 20), put(8, 2, 4, 0, 7)}},
		"none under one of level 1": {9, with(m, 0, 0, 7, 0, 9, 0), 7, []api.Io{put(7, 2, 0, 0, 15)}},
		"none under the other":      {9, mapOf(0, 21, 7, 5, 9, 23), 7, []api.Io{put(7, 2, 4)}},
		"a new node of level 0":     {9, with(m, 16, 30), 10, []api.Io{put(7, 0, 30), put(8, 1, 12, 3, 7), put(10, 2, 8, 0, 15)}},
		"a new node of level 1":     {9, with(m, 511, 30), 10, []api.Io{put(7, 0, 0, 0, 0, 0, 0, 0, 0, 30), put(8, 1, 0, 0, 0, 0, 0, 0, 0, 7), put(10, 2, 4, 0, 15, 0, 0, 0, 0, 8)}},
		"a sector moved":            {9, with(m, 9, 0, 10, 23), 10, []api.Io{put(7, 0, 0, 0, 23), put(8, 1, 12, 7), put(10, 2, 8, 0, 15)}},
		"two sectors of one block":  {9, with(m, 1, 21), 10, []api.Io{put(7, 0, 21, 21, 0, 0, 0, 0, 0, 5), put(8, 1, 7, 3), put(10, 2, 8, 0, 15)}},
		"under two of level 0":      {9, with(m, 0, 30, 9, 31), 11, []api.Io{put(7, 0, 30, 0, 0, 0, 0, 0, 0, 5), put(8, 0, 0, 31), put(10, 1, 7, 8), put(11, 2, 10, 0, 15)}},
		"under two of level 1":      {9, with(m, 191, 30, 0, 31), 13, []api.Io{put(7, 0, 31, 0, 0, 0, 0, 0, 0, 5), put(8, 0, 0, 0, 0, 0, 0, 0, 0, 30), put(10, 1, 7, 3), put(11, 1, 0, 20, 0, 0, 0, 0, 0, 8), put(13, 2, 10, 0, 11)}},
		"less here, more there":     {9, with(m, 9, 0, 300, 23), 11, []api.Io{put(7, 0, 0, 0, 0, 0, 23), put(8, 1, 12), put(10, 1, 0, 0, 0, 0, 0, 7), put(11, 2, 8, 0, 15, 0, 10)}},
		"all others":                {9, mapOf(64, 2), 10, []api.Io{put(7, 0, 2), put(8, 1, 7), put(10, 2, 0, 8)}},
		"the old map beside none":   {0, mapOf(0, 21, 7, 5, 9, 23), 11, []api.Io{put(7, 0, 21, 0, 0, 0, 0, 0, 0, 5), put(8, 0, 0, 23), put(10, 1, 7, 8), put(11, 2, 10)}},
	} {
		root, l, rest, ok := model(img, x.old, x.m, free)
		if root != x.root || !sameSteps(l, x.l) || !slices.Equal(rest, free[len(x.l):]) || !ok {
			t.Errorf("%s: the model answers %d, %s, %v", name, root, show(l), rest)
		}
		holdTree(t, img, x.old, x.m, free, x.root, x.l, free[len(x.l):])
		holdWritten(t, img, x.old, x.m, free)
		if t.Failed() {
			t.Fatal(name)
		}
	}
}

// P14.1: beside no old tree, a map of one sector: each one, so each pointer of each level is held against its place.
func TestOneSectorBesideNone(t *testing.T) {
	for s := range 512 {
		free := []int{7, 8, 10, 14}
		l := []api.Io{put(7, 0, alone(s%8, 5)...), put(8, 1, alone(s%64/8, 7)...), put(10, 2, alone(s/64, 8)...)}
		holdTree(t, device(16), 0, mapOf(s, 5), free, 10, l, []int{14})
		holdModel(t, device(16), 0, mapOf(s, 5), free)
	}
}

// P14.1: an old tree of one sector, each one: as it is, changed, gone, moved to the first and to the last place, one more beside it.
func TestOldTreesOfOneSector(t *testing.T) {
	free := span(6, 15)
	for s := range 512 {
		img := one(s)
		holdTree(t, img, 2, mapOf(s, 5), free, 2, nil, free)
		holdTree(t, img, 2, mapOf(), free, 0, nil, free)
		l := []api.Io{put(6, 0, alone(s%8, 15)...), put(7, 1, alone(s%64/8, 6)...), put(8, 2, alone(s/64, 7)...)}
		holdTree(t, img, 2, mapOf(s, 15), free, 8, l, free[3:])
		for _, other := range []int{0, 1, 7, 8, 63, 64, 448, 504, 510, 511} {
			holdModel(t, img, 2, mapOf(other, 5), free)
			holdModel(t, img, 2, mapOf(other, 5, s, 5), free)
			holdModel(t, img, 2, mapOf(other, 15, s, 5), free)
			holdModel(t, img, 2, mapOf(other, 5, s, 15), free)
		}
	}
}

// P14.1: an old tree of all sectors: one changed, one gone, each one.
func TestEachSectorOfAll(t *testing.T) {
	img, m, free := full(), span(75, 587), fullFree()[:100]
	for s := range 512 {
		for _, at := range []int{699, 0} {
			holdModel(t, img, 2, with(m, s, at), free)
			low := span(75+s/8*8, 83+s/8*8)
			low[s%8] = at
			mid := span(11+s/64*8, 19+s/64*8)
			mid[s/8%8] = 587
			top := span(3, 11)
			top[s/64] = 588
			l := []api.Io{put(587, 0, low...), put(588, 1, mid...), put(589, 2, top...)}
			holdTree(t, img, 2, with(m, s, at), free, 589, l, free[3:])
		}
	}
}

// P14.1: sectors without a block any more, so many from one on: up to all under a node of level 0, of level 1, up to all of them.
func TestRunsGone(t *testing.T) {
	img, m, free := full(), span(75, 587), fullFree()
	for _, from := range []int{0, 1, 7, 8, 9, 56, 63, 64, 65, 448, 504, 511} {
		for _, count := range []int{1, 2, 7, 8, 9, 15, 16, 17, 63, 64, 65, 128, 448, 511, 512} {
			gone, left := slices.Clone(m), make([]int, 512)
			for s := from; s < min(512, from+count); s++ {
				gone[s], left[s] = 0, m[s]
			}
			holdModel(t, img, 2, gone, free)
			holdModel(t, img, 2, left, free)
			holdModel(t, img, 0, left, free)
			// And all of them back, beside the tree that has few.
			root, out := holdModel(t, img, 2, left, free)
			_, _, rest, _ := Tree(img, 2, left, free)
			holdModel(t, out, root, m, rest)
		}
	}
	for i := range 64 {
		gone := slices.Clone(m)
		clear(gone[8*i : 8*i+8])
		holdNeeds(t, img, 2, gone, free, 2)
	}
	for i := range 8 {
		gone := slices.Clone(m)
		clear(gone[64*i : 64*i+64])
		holdNeeds(t, img, 2, gone, free, 1)
	}
	holdNeeds(t, img, 2, mapOf(), free, 0)
}

// P14.1: maps of 512 blocks: all new, all of one block, all as they were.
func TestAllSectors(t *testing.T) {
	img, free := full(), fullFree()
	holdNeeds(t, img, 0, span(75, 587), free, 73)
	holdModel(t, img, 0, span(75, 587), free)
	holdNeeds(t, img, 2, span(75, 587), free, 0)
	holdModel(t, img, 2, span(75, 587), nil)
	back := span(75, 587)
	slices.Reverse(back)
	holdNeeds(t, img, 2, back, free, 73)
	root, out := holdModel(t, img, 2, back, free)
	if root != 587+72 {
		t.Errorf("the root of 73 new nodes: %d", root)
	}
	for i := range 64 {
		if l := way(out, root, 8*i); l[2] != 587+i || l[1] != 587+64+i/8 {
			t.Errorf("sector %d: %v", 8*i, l)
		}
	}
	same := slices.Repeat([]int{699}, 512)
	holdNeeds(t, img, 2, same, free[:80], 73)
	holdModel(t, img, 2, same, free[:73])
	holdModel(t, img, 0, same, free[:73])
	// One sector of each node of level 0 changed, of each one of level 1, of each second one.
	for _, step := range []int{8, 64, 128} {
		m := span(75, 587)
		for s := 3; s < 512; s += step {
			m[s] = 699
		}
		holdNeeds(t, img, 2, m, free[:112], 512/step+min(8, 512/step)+1)
		holdModel(t, img, 2, m, free[:112])
	}
}

// P14.1: the order of the new nodes: all of level 0 by rising sectors, wherever they stand, then those of level 1, then the root; the free blocks in their order, with holes.
func TestOrder(t *testing.T) {
	m := mapOf(511, 5, 0, 5, 448, 5, 63, 5, 64, 5, 8, 5)
	free := []int{2, 4, 6, 8, 9, 12, 13, 19, 20, 21, 22}
	l := []api.Io{
		put(2, 0, 5), put(4, 0, 5), put(6, 0, alone(7, 5)...), put(8, 0, 5), put(9, 0, 5), put(12, 0, alone(7, 5)...),
		put(13, 1, 2, 4, 0, 0, 0, 0, 0, 6), put(19, 1, 8), put(20, 1, 9, 0, 0, 0, 0, 0, 0, 12),
		put(21, 2, 13, 19, 0, 0, 0, 0, 0, 20),
	}
	holdTree(t, device(23), 0, m, free, 21, l, []int{22})
	holdModel(t, device(23), 0, m, free)
	holdTree(t, device(23), 0, m, free[:10], 21, l, nil)
}

// P14.1: the map of an old tree is its own, whatever is free: no new node, the same root.
func TestOldMaps(t *testing.T) {
	holdTree(t, small(), 9, smallMap(), nil, 9, nil, nil)
	holdTree(t, small(), 9, smallMap(), smallFree(), 9, nil, smallFree())
	holdTree(t, small(), 9, smallMap(), []int{31}, 9, nil, []int{31})
	holdTree(t, full(), 2, span(75, 587), nil, 2, nil, nil)
	holdTree(t, full(), 2, span(75, 587), fullFree(), 2, nil, fullFree())
	for _, blocks := range []int{4, 5, 100, 4095, 4096} {
		holdTree(t, device(blocks), 0, mapOf(), nil, 0, nil, nil)
		holdTree(t, device(blocks), 0, mapOf(), span(2, blocks), 0, nil, span(2, blocks))
	}
	// No sector: the old tree is of no matter but for what is free.
	holdTree(t, small(), 9, mapOf(), nil, 0, nil, nil)
	holdTree(t, small(), 9, mapOf(), smallFree(), 0, nil, smallFree())
}

// P14.1: each error of tree.Map, whatever else there is.
func TestOldTreesRefused(t *testing.T) {
	img, m, free := small(), smallMap(), smallFree()
	whole := append(small(), device(4098-32)...)
	others := [][]int{nil, {}, m, m[:511], with(m, 3, 1), with(m, 3, 4096), mapOf()}
	for _, size := range []int{0, 1, 63, 64, 192, 255, 257, 32*64 - 1, 32*64 + 1, 4096*64 - 1, 4096*64 + 1, 4097 * 64, 4098 * 64} {
		for _, old := range append(far(), 0, 1, 4, 9) {
			for _, m := range others {
				holdRefused(t, whole[:size], old, m, free, api.ErrLen)
				holdRefused(t, whole[:size], old, m, []int{1, 9, 9}, api.ErrLen)
			}
		}
	}
	holdRefused(t, nil, 0, nil, nil, api.ErrLen)
	holdRefused(t, nil, 9, m, free, api.ErrLen)
	for _, old := range append(far(), 1, 2, 3, 4, 5, 6, 8, 12, 15, 20, 21, 31, 32, 33, 4095) {
		for _, m := range others {
			holdRefused(t, img, old, m, free, api.ErrTree)
			holdRefused(t, img, old, m, []int{1, 9, 9}, api.ErrTree)
			holdRefused(t, img, old, m, nil, api.ErrTree)
		}
	}
}

// P14.1: old trees that are none, by a node that two pointers lead to, by a node as a sector, by what is no node, by a block beyond the device.
func TestBrokenOldTrees(t *testing.T) {
	for name, change := range map[string]func(img []byte){
		"two pointers of the root to one node":   func(img []byte) { lay(img, 9, 2, 4, 4, 15) },
		"two pointers of level 1 to one node":    func(img []byte) { lay(img, 4, 1, 12, 12) },
		"pointers of two nodes to one node":      func(img []byte) { lay(img, 15, 1, 0, 20, 3, 0, 0, 0, 0, 6) },
		"a node as a sector":                     func(img []byte) { lay(img, 3, 0, 0, 20) },
		"the root as a sector":                   func(img []byte) { lay(img, 3, 0, 9) },
		"a sector beyond the device":             func(img []byte) { lay(img, 3, 0, 0, 32) },
		"a node beyond the device":               func(img []byte) { lay(img, 4, 1, 12, 32) },
		"a broken node of level 0":               func(img []byte) { img[3*64+40] ^= 1 },
		"a broken node of level 1":               func(img []byte) { img[15*64] ^= 1 },
		"a broken root":                          func(img []byte) { img[9*64+63] ^= 1 },
		"a node of level 1 in the place of 0":    func(img []byte) { lay(img, 3, 1, 20) },
		"a node of no pointers":                  func(img []byte) { lay(img, 3, 0) },
		"a pointer to a slot":                    func(img []byte) { lay(img, 3, 0, 1) },
		"a root that leads back to its own node": func(img []byte) { lay(img, 9, 2, 9) },
	} {
		img := small()
		change(img)
		for _, m := range [][]int{smallMap(), mapOf(), mapOf(1, 1), nil} {
			for _, free := range [][]int{smallFree(), nil, {9, 1}} {
				holdRefused(t, img, 9, m, free, api.ErrTree)
			}
		}
		holdModel(t, img, 0, mapOf(9, 30), smallFree())
		if t.Failed() {
			t.Fatal(name)
		}
	}
}

// P14.1: each error of tree.Check, ahead of all that is asked of free.
func TestMapsRefused(t *testing.T) {
	img, m := small(), smallMap()
	frees := [][]int{smallFree(), nil, {7}, {1, 2}, {9}, {24, 8}, {8, 8}, {32}}
	for _, old := range []int{0, 9} {
		for _, free := range frees {
			for _, n := range []int{0, 1, 8, 64, 511, 513, 1024} {
				holdRefused(t, img, old, make([]int, n), free, api.ErrLen)
				holdRefused(t, img, old, slices.Repeat([]int{1}, n), free, api.ErrLen)
			}
			holdRefused(t, img, old, nil, free, api.ErrLen)
			holdRefused(t, img, old, with(m, 5, 4096)[:511], free, api.ErrLen)
			for _, place := range []int{0, 1, 7, 8, 300, 511} {
				for _, at := range append(far(), 1, 32, 33, 4095) {
					holdRefused(t, img, old, with(m, place, at), free, api.ErrArg)
				}
			}
		}
	}
	// The same map on devices of which its last block is one, or not.
	for _, blocks := range []int{31, 32, 33, 4095, 4096} {
		img := append(small(), device(4096)...)[:blocks*64]
		holdModel(t, img, 9, with(m, 400, blocks-1), smallFree())
		holdRefused(t, img, 9, with(m, 400, blocks), smallFree(), api.ErrArg)
	}
}

// wrongIn calls f with free once for each place of it, with what may not stand there: n there.
func wrongIn(free []int, n int, f func(free []int, place int)) {
	for place := range free {
		l := slices.Clone(free)
		l[place] = n
		f(l, place)
	}
}

// P14.1: what is free and may not be, at each place: among the blocks that are needed, and behind them.
func TestFreeRefused(t *testing.T) {
	img, m := small(), with(smallMap(), 0, 30, 9, 31)
	for _, at := range append(far(), 0, 1, 32, 33, 4095) {
		wrongIn(smallFree(), at, func(free []int, _ int) { treeRefused(t, img, 9, m, free, api.ErrArg) })
	}
	held := []int{9, 4, 12, 3, 15, 20, 6, 21, 5, 23, 22, 2, 30, 31}
	for _, at := range held {
		free := append(smallFree(), at)
		slices.Sort(free)
		treeRefused(t, img, 9, m, free, api.ErrArg)
		treeRefused(t, img, 9, m, []int{at}, api.ErrArg)
		// As the last one of all.
		free = free[:slices.Index(free, at)+1]
		treeRefused(t, img, 9, m, free, api.ErrArg)
	}
	// Each block of the device: held, or free.
	for at := 2; at < 32; at++ {
		if !slices.Contains(held, at) {
			treeRefused(t, img, 9, m, []int{at}, api.ErrSpace)
			holdTree(t, img, 9, smallMap(), []int{at}, 9, nil, []int{at})
		}
	}
	for place := 1; place < len(smallFree()); place++ {
		free := smallFree()
		free[place-1], free[place] = free[place], free[place-1]
		treeRefused(t, img, 9, m, free, api.ErrArg)
		free = slices.Insert(smallFree(), place, smallFree()[place])
		treeRefused(t, img, 9, m, free, api.ErrArg)
		free = slices.Insert(smallFree(), place, smallFree()[0])
		treeRefused(t, img, 9, m, free, api.ErrArg)
	}
}

// P14.1: a wrong block behind those that are needed is refused too, be it the first or the last one there, and where none is needed.
func TestFreeBehindWhatIsNeeded(t *testing.T) {
	img := small()
	for _, x := range []struct {
		m     []int
		needs int
	}{{smallMap(), 0}, {mapOf(), 0}, {mapOf(0, 21, 7, 5, 9, 23), 1}, {with(smallMap(), 9, 0), 2}, {with(smallMap(), 0, 30), 3}} {
		holdNeeds(t, img, 9, x.m, smallFree(), x.needs)
		for count := 1; count <= 4; count++ {
			for place := x.needs; place < x.needs+count; place++ {
				for _, wrong := range []int{-1, 0, 1, 3, 7, 9, 21, 23, 32, 4096, math.MaxInt, math.MinInt} {
					free := smallFree()[:x.needs+count]
					if wrong == 7 && place == 0 {
						continue
					}
					free[place] = wrong
					treeRefused(t, img, 9, x.m, free, api.ErrArg)
				}
			}
		}
	}
	// A sector's block of the old tree that the map has no more is still the old tree's; one of the map alone is the map's.
	treeRefused(t, img, 9, mapOf(), []int{7, 8, 23}, api.ErrArg)
	treeRefused(t, img, 9, mapOf(), []int{9}, api.ErrArg)
	treeRefused(t, img, 9, with(smallMap(), 0, 30), append(smallFree(), 30), api.ErrArg)
	treeRefused(t, img, 0, mapOf(0, 30), []int{7, 8, 10, 30}, api.ErrArg)
	// Without the old tree its blocks are free, but for the map's.
	holdModel(t, img, 0, mapOf(0, 30), []int{2, 3, 4, 5, 6, 9})
	holdModel(t, img, 0, mapOf(0, 21), []int{9, 12, 15, 20, 22, 23})
}

// P14.1: free with just as many blocks as are needed, one fewer, one more, none.
func TestSpace(t *testing.T) {
	img := small()
	for _, x := range []struct {
		old   int
		m     []int
		needs int
	}{
		{9, mapOf(), 0}, {9, smallMap(), 0}, {0, mapOf(), 0},
		{9, mapOf(0, 21, 7, 5, 9, 23), 1}, {9, with(smallMap(), 9, 0), 2}, {9, with(smallMap(), 0, 30), 3}, {0, mapOf(300, 30), 3},
		{9, with(smallMap(), 0, 30, 9, 31), 4}, {9, with(smallMap(), 0, 30, 191, 31), 5}, {9, with(smallMap(), 0, 30, 191, 31, 300, 31), 7}, {0, smallMap(), 7},
	} {
		for n := range x.needs {
			treeRefused(t, img, x.old, x.m, smallFree()[:n], api.ErrSpace)
		}
		for n := x.needs; n <= len(smallFree()); n++ {
			holdNeeds(t, img, x.old, x.m, smallFree()[:n], x.needs)
			holdModel(t, img, x.old, x.m, smallFree()[:n])
		}
		treeRefused(t, img, x.old, x.m, append(smallFree()[:x.needs], 1), api.ErrArg)
	}
	m := slices.Repeat([]int{699}, 512)
	for _, n := range []int{0, 1, 71, 72} {
		treeRefused(t, full(), 2, m, fullFree()[:n], api.ErrSpace)
	}
	for _, n := range []int{73, 74} {
		holdModel(t, full(), 2, m, fullFree()[:n])
	}
}

// P14.1: which error stands where several would do: the device's, the old tree's, the map's length, its places, what is free, how much is.
func TestOrderOfErrors(t *testing.T) {
	img := small()
	need := with(smallMap(), 0, 30)
	for _, x := range []struct {
		img  []byte
		old  int
		m    []int
		free []int
		want api.Errno
	}{
		{img[:100], -1, nil, []int{1}, api.ErrLen}, {img[:100], 9, need, nil, api.ErrLen}, {img[:100], 0, mapOf(1, 1), nil, api.ErrLen},
		{img, -1, nil, []int{1}, api.ErrTree}, {img, 1, with(need, 1, 1), nil, api.ErrTree}, {img, 4, need, nil, api.ErrTree},
		{img, 9, with(need, 1, 1)[:500], []int{1}, api.ErrLen}, {img, 9, nil, nil, api.ErrLen},
		{img, 9, with(need, 1, 1), []int{1}, api.ErrArg}, {img, 9, with(need, 1, 1), nil, api.ErrArg},
		{img, 9, need, []int{1}, api.ErrArg}, {img, 9, need, []int{7, 7}, api.ErrArg}, {img, 9, need, []int{30}, api.ErrArg}, {img, 9, need, []int{9}, api.ErrArg}, {img, 9, need, []int{23}, api.ErrArg}, {img, 9, need, []int{8, 7}, api.ErrArg}, {img, 9, need, []int{7, 32}, api.ErrArg},
		{img, 9, need, []int{7}, api.ErrSpace}, {img, 9, need, []int{7, 8}, api.ErrSpace}, {img, 9, need, nil, api.ErrSpace}, {img, 9, need, []int{}, api.ErrSpace},
	} {
		treeRefused(t, x.img, x.old, x.m, x.free, x.want)
	}
}

// P14.1: the smallest device, and the smallest ones on which a tree stands, another one beside it.
func TestSmallDevices(t *testing.T) {
	for _, m := range [][]int{mapOf(0, 2), mapOf(511, 3), slices.Repeat([]int{2}, 512)} {
		for _, free := range [][]int{nil, {5 - slices.Max(m)}} {
			treeRefused(t, device(4), 0, m, free, api.ErrSpace)
		}
		treeRefused(t, device(4), 0, m, []int{2, 3}, api.ErrArg)
		treeRefused(t, device(4), 0, m, []int{4}, api.ErrArg)
	}
	if n, e := Needs(device(4), 0, slices.Repeat([]int{2}, 512)); n != 73 || e != api.OK {
		t.Errorf("Needs of more nodes than there are blocks: %d, %d", n, e)
	}
	if n, e := Needs(device(4), 0, mapOf(511, 3)); n != 3 || e != api.OK {
		t.Errorf("Needs of three nodes on the smallest device: %d, %d", n, e)
	}
	// Six blocks have room for a tree, nine for one more beside it.
	for _, s := range []int{0, 75, 511} {
		holdModel(t, device(6), 0, mapOf(s, 5), []int{2, 3, 4})
		holdModel(t, device(6), 0, mapOf(s, 2), []int{3, 4, 5})
		img := one(s)
		for blocks := 6; blocks < 9; blocks++ {
			treeRefused(t, img[:blocks*64], 2, mapOf(s^1, 5), span(6, blocks), api.ErrSpace)
			holdTree(t, img[:blocks*64], 2, mapOf(s, 5), span(6, blocks), 2, nil, span(6, blocks))
		}
		holdModel(t, img[:9*64], 2, mapOf(s^1, 5), span(6, 9))
	}
}

// P14.1: a greatest device, its blocks at both ends.
func TestGreatDevice(t *testing.T) {
	img := append(small(), device(4096-32)...)
	for _, at := range []int{24, 255, 256, 257, 2048, 4094, 4095} {
		for _, s := range []int{0, 7, 9, 300, 511} {
			free := slices.DeleteFunc(append([]int{7, 8}, span(32, 4096)...), func(n int) bool { return n == at })
			root, _ := holdModel(t, img, 9, with(smallMap(), s, at), free)
			if root != 32 && at != 32 {
				t.Errorf("the third free block is not the root: %d", root)
			}
			last := slices.DeleteFunc(span(4092, 4096), func(n int) bool { return n == at })
			holdModel(t, img, 9, with(smallMap(), s, at), last)
			treeRefused(t, img, 9, with(smallMap(), s, at), append(last, 4096), api.ErrArg)
		}
	}
	m := span(4096-512, 4096)
	holdModel(t, device(4096), 0, m, span(2, 75))
	holdModel(t, device(4096), 0, m, span(4096-512-73, 4096-512))
	holdModel(t, device(4096), 0, m, span(2, 4096-512))
	holdModel(t, device(4096), 0, span(2, 514), span(4096-73, 4096))
	holdNeeds(t, device(4096), 0, span(2, 514), span(514, 4096), 73)
	treeRefused(t, device(4096), 0, m, span(2, 4096), api.ErrArg)
}

// P14.2: what is the same is the old tree's: each node of a new tree stands on one of the blocks that are written, or where the old one has it.
func TestWhatIsTheSame(t *testing.T) {
	img, free := full(), fullFree()[:80]
	roll := dice()
	for range 300 {
		m := span(75, 587)
		for range 1 + roll(6) {
			m[roll(512)] = []int{0, 75, 690, 691}[roll(4)]
		}
		root, l, rest, e := Tree(img, 2, m, free)
		out, _ := dev.Apply(img, l)
		nodes, f := tree.Nodes(out, root)
		if e != api.OK || f != api.OK {
			t.Fatalf("%d, %d", e, f)
		}
		var fresh []int
		for _, at := range nodes {
			if at >= 587 {
				fresh = append(fresh, at)
			}
		}
		slices.Sort(fresh)
		if !slices.Equal(slices.Concat(fresh, rest), free) {
			t.Errorf("new nodes on %v, left %v", fresh, rest)
		}
		for s, at := range m {
			was, is := way(out, 2, s), way(out, root, s)
			for level, count := range []int{512, 64, 8} {
				from := s / count * count
				same := slices.Equal(m[from:from+count], span(75+from, 75+from+count))
				if (is[level] == was[level]) != same {
					t.Errorf("sector %d, of block %d: node %d, was %d", s, at, is[level], was[level])
				}
			}
		}
	}
}

// P14.2: tree beside tree, each beside the one ahead of it, on blocks that none has yet: all maps stay.
func TestManyTrees(t *testing.T) {
	roll := dice()
	for _, few := range []int{1, 4, 40} {
		img, root, m, free := device(4096), 0, mapOf(), span(200, 4096)
		roots, maps := []int{0}, [][]int{m}
		for range 100 {
			m = slices.Clone(m)
			for range 1 + roll(few) {
				s := roll(512)
				m[s] = (2 + roll(198)) * min(1, roll(4))
			}
			if roll(10) == 0 {
				from := roll(512)
				clear(m[from:min(512, from+roll(200))])
			}
			n, _ := Needs(img, root, m)
			if n > len(free) {
				treeRefused(t, img, root, m, free, api.ErrSpace)
				break
			}
			next, out := holdModel(t, img, root, m, free)
			root, img, free = next, out, free[n:]
			roots, maps = append(roots, root), append(maps, m)
		}
		for i, root := range roots {
			if got, e := tree.Map(img, root); !slices.Equal(got, maps[i]) || e != api.OK {
				t.Errorf("tree %d of %d has another map, %d", i, len(roots), e)
			}
		}
		if len(roots) < 30 {
			t.Errorf("only %d trees", len(roots))
		}
	}
}

// P14.2: a map may have blocks that the old tree's nodes stand on, as long as none of these is kept.
func TestMapsOfOldNodes(t *testing.T) {
	img := small()
	for _, m := range [][]int{
		mapOf(0, 9), mapOf(0, 4, 1, 12, 9, 3), mapOf(64, 9, 65, 4, 66, 12, 67, 3, 68, 15, 69, 20, 70, 6),
		with(smallMap(), 0, 9), with(smallMap(), 0, 12), with(smallMap(), 0, 4), with(smallMap(), 9, 3), with(smallMap(), 191, 6, 9, 15),
	} {
		holdModel(t, img, 9, m, smallFree())
		holdRefusedFree(t, img, m, []int{9, 4, 12, 3, 15, 20, 6})
	}
}

func holdRefusedFree(t *testing.T, img []byte, m, l []int) {
	t.Helper()
	for _, at := range l {
		treeRefused(t, img, 9, m, []int{at}, api.ErrArg)
	}
}

// dice answers numbers below n, the same ones in each run.
func dice() func(n int) int {
	x := uint64(88172645463325252)
	return func(n int) int {
		x ^= x << 13
		x ^= x >> 7
		x ^= x << 17
		return int(x >> 33 % uint64(n))
	}
}

// thrown answers a device whose blocks are mostly of a right kind each, so that many a root is one of a tree: of six blocks one is a root, two are nodes of level 1, two of level 0, one a sector's.
func thrown(roll func(n int) int) []byte {
	blocks := 12 + roll(30)
	img := device(blocks)
	kinds := []int{2, 1, 1, 0, 0, 3}
	fit := [3][2]int{{5, 5}, {3, 4}, {1, 2}}
	for at := range blocks {
		level := kinds[at%6]
		if level == 3 {
			continue
		}
		var ptr [8]int
		for range 1 + roll(2) {
			next := 6*roll((blocks+5)/6) + fit[level][roll(2)]
			if roll(60) == 0 {
				next = roll(blocks + 3)
			}
			ptr[roll(8)] = next
		}
		lay(img, at, level, ptr[:]...)
	}
	if roll(4) == 0 {
		img[roll(len(img))] ^= 1
	}
	return img
}

// thrownMap answers a map near to m, mostly a right one.
func thrownMap(roll func(n int) int, m []int, blocks int) []int {
	out := slices.Clone(m)
	for range roll(5) {
		s := roll(512)
		for out[s] == 0 && roll(30) > 0 {
			s = (s + 1) % 512
		}
		at := []int{0, 6*roll((blocks+5)/6) + 5, roll(blocks)}[roll(3)]
		if roll(100) == 0 {
			at = roll(2*blocks) - 5
		}
		for range 1 + roll(2)*roll(9) {
			out[s] = at
			s = (s + 1) % 512
		}
	}
	if roll(25) == 0 {
		return out[:roll(512)]
	}
	return out
}

// thrownFree answers blocks that are mostly right ones: rising, none of those in held.
func thrownFree(roll func(n int) int, held []int, blocks int) []int {
	most := roll(20)
	var free []int
	for at := 2; at < blocks && len(free) < most; at++ {
		if roll(3) > 0 && (!slices.Contains(held, at) || roll(150) == 0) {
			free = append(free, at)
		}
	}
	if roll(20) == 0 && len(free) > 0 {
		free[roll(len(free))] = roll(blocks+4) - 2
	}
	return free
}

// wantError answers the chapter's error for all that Tree is given, told by other means than the program's, but for what layer 10 says.
func wantError(img []byte, old int, m, free []int) (needs, full api.Errno) {
	if _, e := tree.Map(img, old); e != api.OK {
		return e, e
	}
	if e := tree.Check(m, len(img)/64); e != api.OK {
		return e, e
	}
	count := map[int]int{}
	for _, at := range m {
		count[at]++
	}
	for s := range 512 {
		for _, at := range way(img, old, s) {
			count[at]++
		}
	}
	for i, at := range free {
		if at < 2 || at > len(img)/64-1 || i > 0 && at <= free[i-1] || count[at] > 0 {
			return api.OK, api.ErrArg
		}
	}
	if _, _, _, ok := model(img, old, m, free); !ok {
		return api.OK, api.ErrSpace
	}
	return api.OK, api.OK
}

// holdThrown holds both calls against the model, whatever they are given. It answers Tree's error.
func holdThrown(t *testing.T, img []byte, old int, m, free []int) api.Errno {
	t.Helper()
	needs, want := wantError(img, old, m, free)
	n, e := Needs(img, old, m)
	if e != needs || e != api.OK && n != 0 {
		t.Fatalf("Needs beside root %d: %d, %d, want %d", old, n, e, needs)
	}
	if want != api.OK {
		treeRefused(t, img, old, m, free, want)
		if needs == api.OK {
			if _, l, _, _ := model(img, old, m, span(5000, 5100)); n != len(l) {
				t.Errorf("Needs beside root %d: %d, want %d", old, n, len(l))
			}
		}
		return want
	}
	root, l, rest, _ := model(img, old, m, free)
	holdTree(t, img, old, m, free, root, l, rest)
	kept := false
	for s := range 512 {
		was := way(img, old, s)
		is := way(laidOn(img, l), root, s)
		for level := range 3 {
			kept = kept || was[level] != 0 && was[level] == is[level] && slices.Contains(m, was[level])
		}
	}
	// Where the map has a block that a node of the old tree is kept on, there is no tree of that map.
	if !kept {
		holdWritten(t, img, old, m, free)
	}
	return api.OK
}

// laidOn answers img with what those steps write.
func laidOn(img []byte, l []api.Io) []byte {
	out := slices.Clone(img)
	for _, x := range l {
		set(out, x.At, x.Data)
	}
	return out
}

// T4: devices whose blocks are thrown: beside whatever stands there a tree is built as the model builds it, or refused with the chapter's error.
func TestThrownDevices(t *testing.T) {
	roll := dice()
	met := map[api.Errno]int{}
	beside := 0
	for range 1500 {
		img := thrown(roll)
		blocks := len(img) / 64
		for range 4 {
			old := 6 * roll((blocks+5)/6) * min(1, roll(10))
			if roll(15) == 0 {
				old = roll(blocks+4) - 2
			}
			m, e := tree.Map(img, old)
			if e != api.OK {
				m = mapOf()
			} else if old != 0 {
				beside++
			}
			nodes, _ := tree.Nodes(img, old)
			held := slices.Concat(m, nodes)
			m = thrownMap(roll, m, blocks)
			free := thrownFree(roll, slices.Concat(held, m), blocks)
			met[holdThrown(t, img, old, m, free)]++
		}
	}
	for _, e := range []api.Errno{api.OK, api.ErrArg, api.ErrLen, api.ErrTree, api.ErrSpace} {
		if met[e] < 50 {
			t.Errorf("only %d were thrown with %d: %v", met[e], e, met)
		}
	}
	if beside < 500 {
		t.Errorf("only %d old trees were thrown", beside)
	}
}

// T4: each bit of a device, changed: the new tree is as it was, or the old one is refused.
func TestEveryBit(t *testing.T) {
	img, m, free := small(), with(smallMap(), 0, 30, 9, 0), smallFree()
	root, l, rest, _ := Tree(img, 9, m, free)
	nodes := []int{9, 4, 12, 3, 15, 20, 6}
	for at := range len(img) {
		for bit := range 8 {
			img[at] ^= 1 << bit
			if slices.Contains(nodes, at/64) {
				holdRefused(t, img, 9, m, free, api.ErrTree)
			} else {
				holdTree(t, img, 9, m, free, root, l, rest)
			}
			img[at] ^= 1 << bit
		}
	}
}

// T4: devices of bytes that are thrown: no old tree stands there, a new one is built beside none.
func TestThrownBytes(t *testing.T) {
	roll := dice()
	for range 200 {
		img := device(12 + roll(60))
		for at := range img {
			img[at] = byte(roll(256))
		}
		for at := range len(img) / 64 {
			if roll(2) == 0 {
				copy(img[at*64:], "NODE\x02\x00\x00\x00")
			}
		}
		for _, old := range []int{2, 3, 5, len(img)/64 - 1} {
			holdRefused(t, img, old, mapOf(3, 5), []int{7, 8, 9}, api.ErrTree)
		}
		holdModel(t, img, 0, mapOf(roll(512), 5), []int{2, 8, 9, 11})
		holdRefused(t, img[1:], 0, mapOf(3, 5), []int{7, 8, 9}, api.ErrLen)
	}
}

// spared answers l with room behind that is full of c.
func spared[T any](l []T, c T) []T {
	return append(slices.Clone(l), slices.Repeat([]T{c}, 1000)...)[:len(l)]
}

// stays tells whether l, which spared answered, and its room are as they were.
func stays[T comparable](l, was []T, c T) bool {
	return slices.Equal(l, was) && slices.Equal(l[len(l):len(l)+1000], slices.Repeat([]T{c}, 1000))
}

// R2, R6: no argument is changed, its spare room neither, and what lies behind its length is not read.
func TestArgumentsStay(t *testing.T) {
	for _, img := range [][]byte{small(), small()[:31*64], small()[:20*64], small()[:100], nil} {
		for _, old := range []int{-1, 0, 4, 9} {
			for _, m := range [][]int{smallMap(), with(smallMap(), 0, 30, 300, 23), mapOf(), smallMap()[:511], with(smallMap(), 0, 1), nil} {
				for _, free := range [][]int{smallFree(), smallFree()[:2], {7, 7}, nil} {
					holdStays(t, slices.Clip(img), old, slices.Clip(m), slices.Clip(free))
				}
			}
		}
	}
	// Blocks of the old tree that a short device lacks, and a place and blocks that a list lacks, stand in the room.
	room := small()[:20*64]
	holdRefused(t, room, 9, mapOf(), nil, api.ErrTree)
	holdRefused(t, small(), 9, smallMap()[:511], nil, api.ErrLen)
	treeRefused(t, small(), 9, with(smallMap(), 0, 30), smallFree()[:2], api.ErrSpace)
}

// holdStays holds both calls with room behind what they are given against the same without.
func holdStays(t *testing.T, img []byte, old int, m, free []int) {
	t.Helper()
	wantN, wantE := Needs(img, old, m)
	wantRoot, wantL, wantRest, wantF := Tree(img, old, m, free)
	for _, c := range []int{0, 1, 8, 255} {
		b, n, f := spared(img, byte(c)), spared(m, c), spared(free, c)
		got, e := Needs(b, old, n)
		root, l, rest, g := Tree(b, old, n, f)
		if got != wantN || e != wantE || root != wantRoot || !sameSteps(l, wantL) || !slices.Equal(rest, wantRest) || g != wantF {
			t.Errorf("beside root %d, with room behind: %d, %d, %d, %s, %v, %d", old, got, e, root, show(l), rest, g)
		}
		if !stays(b, img, byte(c)) || !stays(n, m, c) || !stays(f, free, c) {
			t.Errorf("beside root %d: an argument is changed", old)
		}
	}
}

// scrawl writes all over l, its spare room too.
func scrawl[T any](l []T, with T) {
	l = l[:cap(l)]
	for i := range l {
		l[i] = with
	}
}

// R2: each answer is memory of its own: no write's data is another's, nor the device's, nor what is left the list's that was handed in.
func TestAnswersAreNew(t *testing.T) {
	img, m, free := small(), with(smallMap(), 0, 30, 191, 31, 300, 2), smallFree()
	root, l, rest, _ := Tree(img, 9, m, free)
	_, again, restAgain, _ := Tree(img, 9, m, free)
	wantRoot, want, wantRest, _ := model(small(), 9, m, smallFree())
	if root != wantRoot || len(l) != 7 || len(rest) != 9 {
		t.Fatalf("%d, %s, %v", root, show(l), rest)
	}
	for k, x := range l {
		scrawl(x.Data, byte(k))
	}
	for k, x := range l {
		if !bytes.Equal(x.Data[:cap(x.Data)], bytes.Repeat([]byte{byte(k)}, cap(x.Data))) {
			t.Errorf("write %d shares memory with another one", k)
		}
	}
	scrawl(rest, -7)
	scrawl(l, api.Io{Kind: -7})
	if !bytes.Equal(img, small()) || !slices.Equal(m, with(smallMap(), 0, 30, 191, 31, 300, 2)) || !slices.Equal(free, smallFree()) {
		t.Error("an answer shares memory with an argument")
	}
	if !sameSteps(again, want) || !slices.Equal(restAgain, wantRest) {
		t.Error("two answers share memory")
	}
	scrawl(img, 0xFF)
	scrawl(m, -1)
	scrawl(free, -1)
	if !sameSteps(again, want) || !slices.Equal(restAgain, wantRest) {
		t.Error("an argument shares memory with an answer")
	}
	// Where nothing is taken of free, and where all of it is.
	free = smallFree()
	_, _, rest, _ = Tree(small(), 9, smallMap(), free)
	scrawl(rest, -7)
	if !slices.Equal(free, smallFree()) {
		t.Error("what is left, all of it, shares memory with what was free")
	}
	_, _, rest, _ = Tree(small(), 9, with(smallMap(), 0, 30), free[:3])
	scrawl(rest, -7)
	if !slices.Equal(free, smallFree()) {
		t.Error("what is left, nothing, shares memory with what was free")
	}
}

// R3: nothing of a call is kept, of a refused one neither.
func TestNothingIsKept(t *testing.T) {
	for range 3 {
		holdModel(t, small(), 9, with(smallMap(), 0, 30), smallFree())
		holdRefused(t, small(), 4, smallMap(), smallFree(), api.ErrTree)
		holdRefused(t, small(), 9, nil, smallFree(), api.ErrLen)
		treeRefused(t, small(), 9, with(smallMap(), 0, 30), smallFree()[:2], api.ErrSpace)
		holdTree(t, small(), 9, smallMap(), smallFree(), 9, nil, smallFree())
		holdModel(t, full(), 2, with(span(75, 587), 75, 699), fullFree()[:50])
		holdModel(t, device(20), 0, mapOf(511, 19), span(2, 19))
		holdModel(t, small(), 9, with(smallMap(), 9, 0), smallFree())
	}
}
