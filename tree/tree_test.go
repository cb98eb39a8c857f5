package tree

import (
	"bytes"
	"encoding/binary"
	"hash/crc32"
	"math"
	"slices"
	"testing"

	"woodcut/api"
)

var table = crc32.MakeTable(crc32.Castagnoli)

// sealed answers b's first 60 bytes with their sum behind, worked out by other means than the program's.
func sealed(b []byte) []byte {
	ahead := slices.Clone(b[:60])
	return binary.LittleEndian.AppendUint32(ahead, crc32.Checksum(ahead, table))
}

// laid answers the block of a node of these numbers, right ones or not.
func laid(level int, ptr [8]int) []byte {
	b := []byte{'N', 'O', 'D', 'E'}
	b = binary.LittleEndian.AppendUint32(b, uint32(level))
	for _, n := range ptr {
		b = binary.LittleEndian.AppendUint32(b, uint32(n))
	}
	return sealed(append(b, make([]byte, 20)...))
}

// device answers one of so many blocks, all zeros.
func device(blocks int) []byte {
	return make([]byte, blocks*64)
}

// filled answers a device of so many blocks, all of whose bytes are c.
func filled(blocks int, c byte) []byte {
	return bytes.Repeat([]byte{c}, blocks*64)
}

// set lays b into block at of img.
func set(img []byte, at int, b []byte) {
	copy(img[at*64:(at+1)*64], b)
}

// lay lays a node into block at of img.
func lay(img []byte, at, level int, ptr ...int) {
	var all [8]int
	copy(all[:], ptr)
	set(img, at, laid(level, all))
}

// alone answers eight pointers, all 0 but the one at place i.
func alone(i, at int) []int {
	ptr := make([]int, 8)
	ptr[i] = at
	return ptr
}

// with answers ptr as eight pointers, the one at place i put to at.
func with(ptr []int, i, at int) []int {
	out := make([]int, 8)
	copy(out, ptr)
	out[i] = at
	return out
}

// small answers a device of 24 blocks with a tree whose root is block 9: sectors 0 and 7 below nodes 4 and 12, 9 below 4 and 3, 136 to 138 below 15 and 20, 191 below 15 and 6.
func small() []byte {
	img := device(24)
	lay(img, 9, 2, 4, 0, 15)
	lay(img, 4, 1, 12, 3)
	lay(img, 12, 0, 21, 0, 0, 0, 0, 0, 0, 5)
	lay(img, 3, 0, 0, 23)
	lay(img, 15, 1, 0, 20, 0, 0, 0, 0, 0, 6)
	lay(img, 6, 0, 0, 0, 0, 0, 0, 0, 0, 2)
	lay(img, 20, 0, 21, 22, 21)
	return img
}

func smallMap() map[int]int {
	return map[int]int{0: 21, 7: 5, 9: 23, 136: 21, 137: 22, 138: 21, 191: 2}
}

func smallNodes() []int {
	return []int{9, 4, 12, 3, 15, 20, 6}
}

// one answers a device whose tree, of root 2, has one sector, in block 5.
func one(sector int) []byte {
	img := device(8)
	lay(img, 2, 2, alone(sector/64, 3)...)
	lay(img, 3, 1, alone(sector%64/8, 4)...)
	lay(img, 4, 0, alone(sector%8, 5)...)
	return img
}

// full answers a device whose tree, of root 2, has all sectors: the nodes of level 1 from 3 on, those of level 0 from 11 on, the sectors from 75 on.
func full() []byte {
	img := device(75 + 512)
	rising := func(from int) []int {
		var l []int
		for i := range 8 {
			l = append(l, from+i)
		}
		return l
	}
	lay(img, 2, 2, rising(3)...)
	for i := range 8 {
		lay(img, 3+i, 1, rising(11+8*i)...)
	}
	for i := range 64 {
		lay(img, 11+i, 0, rising(75+8*i)...)
	}
	return img
}

func fullMap() map[int]int {
	m := map[int]int{}
	for s := range 512 {
		m[s] = 75 + s
	}
	return m
}

func fullNodes() []int {
	l := []int{2}
	for i := range 8 {
		l = append(l, 3+i)
		for k := range 8 {
			l = append(l, 11+8*i+k)
		}
	}
	return l
}

// far are numbers that are no block of any device, some of which would be one if they wrapped.
func far() []int {
	return []int{
		math.MinInt, math.MinInt + 2, -1 << 62, -1 << 32, -1<<32 + 2, -1<<32 + 9, -4096, -9, -2, -1,
		4096, 4097, 1<<16 + 9, 1 << 31, 1<<32 + 2, 1<<32 + 9, 1<<58 + 9, 1 << 62, math.MaxInt - 1, math.MaxInt,
	}
}

// mapOf answers a map of these sectors.
func mapOf(of map[int]int) []int {
	m := make([]int, 512)
	for s, at := range of {
		m[s] = at
	}
	return m
}

// holdTree holds all calls against what is to be told of a tree.
func holdTree(t *testing.T, img []byte, root int, m, nodes []int) {
	t.Helper()
	if got, e := Map(img, root); !slices.Equal(got, m) || e != api.OK {
		t.Errorf("Map of root %d: %v, %d, want %v", root, got, e, m)
	}
	if got, e := Nodes(img, root); !slices.Equal(got, nodes) || e != api.OK {
		t.Errorf("Nodes of root %d: %v, %d, want %v", root, got, e, nodes)
	}
	for s, at := range m {
		if got, e := Sector(img, root, s); got != at || e != api.OK {
			t.Errorf("Sector of root %d, %d: %d, %d, want %d", root, s, got, e, at)
		}
	}
	if e := Check(m, len(img)/64); e != api.OK {
		t.Errorf("Check of the map of root %d: %d", root, e)
	}
	holdRange(t, img, root, api.ErrRange)
}

// holdRefused holds all calls against an error, and against anything beside it.
func holdRefused(t *testing.T, img []byte, root int, want api.Errno) {
	t.Helper()
	if got, e := Map(img, root); len(got) != 0 || e != want {
		t.Errorf("Map of root %d: %v, %d, want %d", root, got, e, want)
	}
	if got, e := Nodes(img, root); len(got) != 0 || e != want {
		t.Errorf("Nodes of root %d: %v, %d, want %d", root, got, e, want)
	}
	for _, s := range []int{0, 1, 7, 8, 64, 256, 511} {
		if got, e := Sector(img, root, s); got != 0 || e != want {
			t.Errorf("Sector of root %d, %d: %d, %d, want %d", root, s, got, e, want)
		}
	}
	holdRange(t, img, root, want)
}

// holdRange holds Sector of sectors that no head has against an error.
func holdRange(t *testing.T, img []byte, root int, want api.Errno) {
	t.Helper()
	for _, s := range []int{math.MinInt, -1 << 32, -512, -2, -1, 512, 513, 1024, 1 << 32, 1<<32 + 1, math.MaxInt} {
		if got, e := Sector(img, root, s); got != 0 || e != want {
			t.Errorf("Sector of root %d, %d: %d, %d, want %d", root, s, got, e, want)
		}
	}
}

// P10.1: the chapter's example: root 0 has no nodes, and no sector a block, whatever the device holds.
func TestNoRoot(t *testing.T) {
	none := make([]int, 512)
	for _, blocks := range []int{4, 5, 24, 4095, 4096} {
		for _, c := range []byte{0, 1, 'N', 0xFF} {
			holdTree(t, filled(blocks, c), 0, none, nil)
		}
	}
	img := small()
	holdTree(t, img, 0, none, nil)
	lay(img, 0, 2, 4)
	holdTree(t, img, 0, none, nil)
}

// P10.1: a tree of several sectors, under one node and under several.
func TestTrees(t *testing.T) {
	holdTree(t, small(), 9, mapOf(smallMap()), smallNodes())

	img := device(12)
	lay(img, 7, 2, 0, 0, 0, 8)
	lay(img, 8, 1, 0, 0, 0, 0, 0, 6)
	lay(img, 6, 0, 11, 10, 0, 9, 0, 5, 4)
	holdTree(t, img, 7, mapOf(map[int]int{232: 11, 233: 10, 235: 9, 237: 5, 238: 4}), []int{7, 8, 6})
}

// P10.1: a tree of one sector, each one: so each pointer of each level is held against its places of the map.
func TestTreesOfOneSector(t *testing.T) {
	for s := range 512 {
		holdTree(t, one(s), 2, mapOf(map[int]int{s: 5}), []int{2, 3, 4})
	}
}

// P10.1: a tree of all sectors, also on a greatest device, its blocks at both ends.
func TestTreeOfAllSectors(t *testing.T) {
	holdTree(t, full(), 2, mapOf(fullMap()), fullNodes())

	img := device(4096)
	// Block by block the tree of full, from the device's end on: so each pointer is great, and falls.
	at := func(b int) int { return 4097 - b }
	src := full()
	var m, nodes []int
	for _, b := range fullNodes() {
		level, ptr, _ := parsed(src[b*64 : b*64+64])
		for i := range ptr {
			ptr[i] = at(ptr[i])
		}
		lay(img, at(b), level, ptr[:]...)
		nodes = append(nodes, at(b))
	}
	for s := range 512 {
		m = append(m, at(75+s))
	}
	holdTree(t, img, 4095, m, nodes)
}

// P10.1: Nodes, the order is the pointers', not the blocks', nor level by level.
func TestOrderOfNodes(t *testing.T) {
	img := device(20)
	lay(img, 5, 2, 0, 12, 0, 3, 0, 0, 0, 19)
	lay(img, 12, 1, 18, 0, 0, 2, 7)
	lay(img, 3, 1, 0, 0, 0, 0, 0, 0, 16)
	lay(img, 19, 1, 14, 13)
	for _, at := range []int{18, 2, 7, 16, 14, 13} {
		lay(img, at, 0, 0, 0, 17)
	}
	m := mapOf(map[int]int{66: 17, 90: 17, 98: 17, 242: 17, 450: 17, 458: 17})
	holdTree(t, img, 5, m, []int{5, 12, 18, 2, 7, 3, 16, 19, 14, 13})
}

// P10.1: a device that dev.Check refuses, whatever the root is.
func TestRefusedDevices(t *testing.T) {
	whole := device(4098)
	copy(whole, small())
	for _, size := range []int{0, 1, 63, 64, 65, 128, 192, 255, 257, 24*64 - 1, 24*64 + 1, 4096*64 - 1, 4096*64 + 1, 4097 * 64, 4098 * 64} {
		for _, root := range append(far(), 0, 1, 2, 3, 9, 23, 24, 4095) {
			holdRefused(t, whole[:size], root, api.ErrLen)
		}
	}
	holdRefused(t, nil, 0, api.ErrLen)
	holdRefused(t, nil, 9, api.ErrLen)
	holdTree(t, whole[:256], 0, make([]int, 512), nil)
	holdTree(t, whole[:4096*64], 9, mapOf(smallMap()), smallNodes())
}

// P10.1: a root at its edges.
func TestRoots(t *testing.T) {
	for _, root := range append(far(), 1, 24, 25, 4095) {
		holdRefused(t, small(), root, api.ErrTree)
	}
	for _, blocks := range []int{7, 8, 24, 4096} {
		img := device(blocks)
		// In the slots there stand right roots too, which are none.
		for _, at := range []int{0, 1, 2, blocks - 1} {
			lay(img, at, 2, 3)
		}
		lay(img, 3, 1, 4)
		lay(img, 4, 0, 0, 5)
		for _, root := range []int{-1, 1, blocks, blocks + 1} {
			holdRefused(t, img, root, api.ErrTree)
		}
		holdTree(t, img, 0, make([]int, 512), nil)
		for _, root := range []int{2, blocks - 1} {
			holdTree(t, img, root, mapOf(map[int]int{1: 5}), []int{root, 3, 4})
		}
	}
}

// P10.1: a root that would be one on a greater device.
func TestRootsBeyondTheDevice(t *testing.T) {
	whole := device(64)
	for at := 6; at < 64; at++ {
		lay(whole, at, 2, 3)
	}
	lay(whole, 3, 1, 4)
	lay(whole, 4, 0, 5)
	for blocks := 6; blocks <= 64; blocks++ {
		for root := 6; root < 64; root++ {
			want, wantNodes := api.OK, []int{root, 3, 4}
			if root >= blocks {
				want, wantNodes = api.ErrTree, nil
			}
			if got, e := Nodes(whole[:blocks*64], root); !slices.Equal(got, wantNodes) || e != want {
				t.Errorf("%d blocks, root %d: %v, %d", blocks, root, got, e)
			}
		}
	}
}

// noNodes are blocks that do not parse as a node, though each is nearly one of that level whose pointer at place 0 is at.
func noNodes(level, at int) [][]byte {
	good := laid(level, [8]int{at})
	changed := func(place int, c byte) []byte {
		out := slices.Clone(good)
		out[place] = c
		return out
	}
	return [][]byte{
		make([]byte, 64),
		bytes.Repeat([]byte{0xFF}, 64),
		sealed(make([]byte, 64)),
		sealed(changed(0, 'n')),
		sealed(append([]byte("SNAP"), good[4:]...)),
		sealed(append([]byte("WCUT"), good[4:]...)),
		changed(63, good[63]^1),
		changed(8, good[8]^1),
		changed(59, 1),
		sealed(changed(40, 1)),
		sealed(changed(59, 1)),
		laid(3, [8]int{at}),
		laid(-1, [8]int{at}),
		laid(1<<8+level, [8]int{at}),
		laid(1<<31+level, [8]int{at}),
		laid(level, [8]int{}),
		laid(level, [8]int{1}),
		laid(level, [8]int{at, 1}),
		laid(level, [8]int{at, 4096}),
		laid(level, [8]int{at, 0, 0, 0, 0, 0, 0, 4096}),
		laid(level, [8]int{at, 0, 0, 0, 0, 0, 0, 1}),
		laid(level, [8]int{at, -1}),
		laid(level, [8]int{1<<16 + at}),
	}
}

// P10.1: blocks that are no nodes, at each level, at the first node of it and at the last.
func TestBlocksThatAreNoNodes(t *testing.T) {
	at := map[int][]int{2: {9}, 1: {4, 15}, 0: {12, 3, 20, 6}}
	for level, blocks := range at {
		for _, block := range blocks {
			src := small()
			_, ptr, _ := parsed(src[block*64 : block*64+64])
			leads := 0
			for _, p := range ptr {
				leads = max(leads, p)
			}
			for i, b := range noNodes(level, leads) {
				img := small()
				set(img, block, b)
				if _, _, ok := parsed(b); ok {
					t.Fatalf("block %d of noNodes is a node", i)
				}
				holdRefused(t, img, 9, api.ErrTree)
			}
		}
	}
}

// P10.1: a node of each level where one of another is asked, by each pointer.
func TestLevelsOutOfPlace(t *testing.T) {
	for _, s := range []int{0, 1, 8, 63, 64, 75, 448, 510, 511} {
		for root := range 4 {
			for mid := range 4 {
				for low := range 4 {
					img := device(8)
					lay(img, 2, root, alone(s/64, 3)...)
					lay(img, 3, mid, alone(s%64/8, 4)...)
					lay(img, 4, low, alone(s%8, 5)...)
					lay(img, 5, 0, 6)
					if root == 2 && mid == 1 && low == 0 {
						holdTree(t, img, 2, mapOf(map[int]int{s: 5}), []int{2, 3, 4})
						continue
					}
					holdRefused(t, img, 2, api.ErrTree)
				}
			}
		}
	}
}

// P10.1: a root of level 1, of level 0, from which all else is right.
func TestRootsOfOtherLevels(t *testing.T) {
	for _, root := range []int{4, 15, 12, 3, 20, 6} {
		holdRefused(t, small(), root, api.ErrTree)
	}
	for _, root := range []int{2, 5, 7, 21, 22, 23} {
		holdRefused(t, small(), root, api.ErrTree)
	}
}

// P10.1: one pointer among others leads to a node of another level, or to none.
func TestPointersToOtherLevels(t *testing.T) {
	for i := range 8 {
		for _, level := range []int{0, 1, 2, 3} {
			// Of a node of level 2: to block 11, which leads to what a node of that level may lead to.
			img := device(16)
			lay(img, 2, 2, with(alone(3, 3), i, 11)...)
			lay(img, 3, 1, 4)
			lay(img, 4, 0, 5)
			lay(img, 6, 0, 7)
			lay(img, 8, 1, 6)
			lay(img, 11, level, map[int]int{0: 7, 1: 6, 2: 8, 3: 6}[level])
			if level != 1 {
				holdRefused(t, img, 2, api.ErrTree)
			} else if got, e := Map(img, 2); e != api.OK || got[64*i] != 7 {
				t.Errorf("pointer %d of the root: %v, %d", i, got, e)
			}
			// And of a node of level 1.
			lay(img, 2, 2, 3)
			lay(img, 3, 1, with(alone(3, 4), i, 11)...)
			if level != 0 {
				holdRefused(t, img, 2, api.ErrTree)
			} else if got, e := Map(img, 2); e != api.OK || got[8*i] != 7 {
				t.Errorf("pointer %d of a node of level 1: %v, %d", i, got, e)
			}
		}
		// To no node.
		img := device(16)
		lay(img, 2, 2, with(alone(3, 3), i, 11)...)
		lay(img, 3, 1, 4)
		lay(img, 4, 0, 5)
		holdRefused(t, img, 2, api.ErrTree)
		lay(img, 2, 2, 3)
		lay(img, 3, 1, with(alone(3, 4), i, 11)...)
		holdRefused(t, img, 2, api.ErrTree)
	}
}

// P10.1: a pointer at the last block, and beyond it, at each level and each place.
func TestPointersAtTheEnd(t *testing.T) {
	for _, blocks := range []int{8, 9, 100, 4095} {
		for i := range 8 {
			whole := device(4096)
			low := func(at int) { lay(whole, at, 0, alone(i, 5)...) }
			mid := func(at, next int) { lay(whole, at, 1, alone(i, next)...) }
			top := func(next int) { lay(whole, 2, 2, alone(i, next)...) }
			last, beyond := blocks-1, blocks
			s := 64*i + 8*i + i

			top(last)
			mid(last, 4)
			low(4)
			holdTree(t, whole[:blocks*64], 2, mapOf(map[int]int{s: 5}), []int{2, last, 4})
			top(beyond)
			mid(beyond, 4)
			holdRefused(t, whole[:blocks*64], 2, api.ErrTree)
			holdTree(t, whole[:(blocks+1)*64], 2, mapOf(map[int]int{s: 5}), []int{2, beyond, 4})

			top(3)
			mid(3, last)
			low(last)
			holdTree(t, whole[:blocks*64], 2, mapOf(map[int]int{s: 5}), []int{2, 3, last})
			mid(3, beyond)
			low(beyond)
			holdRefused(t, whole[:blocks*64], 2, api.ErrTree)

			mid(3, 4)
			lay(whole, 4, 0, alone(i, last)...)
			holdTree(t, whole[:blocks*64], 2, mapOf(map[int]int{s: last}), []int{2, 3, 4})
			lay(whole, 4, 0, alone(i, beyond)...)
			holdRefused(t, whole[:blocks*64], 2, api.ErrTree)
			lay(whole, 4, 0, alone(i, 4095)...)
			holdRefused(t, whole[:blocks*64], 2, api.ErrTree)
		}
	}
}

// P10.1: a node's block that is met twice.
func TestNodesMetTwice(t *testing.T) {
	for name, change := range map[string]func(img []byte){
		"two pointers of the root":           func(img []byte) { lay(img, 9, 2, 4, 4, 15) },
		"first and last pointer of the root": func(img []byte) { lay(img, 9, 2, 4, 0, 15, 0, 0, 0, 0, 4) },
		"the root's alone":                   func(img []byte) { lay(img, 9, 2, 4, 4) },
		"two pointers of level 1":            func(img []byte) { lay(img, 4, 1, 12, 12, 3) },
		"first and last of level 1":          func(img []byte) { lay(img, 15, 1, 20, 0, 0, 0, 0, 0, 6, 20) },
		"level 1's alone":                    func(img []byte) { lay(img, 4, 1, 12, 12); lay(img, 9, 2, 4) },
		"pointers of two nodes":              func(img []byte) { lay(img, 15, 1, 0, 20, 0, 12, 0, 0, 0, 6) },
		"pointers of two nodes at one place": func(img []byte) { lay(img, 15, 1, 12, 20, 0, 0, 0, 0, 0, 6) },
		"the other way about":                func(img []byte) { lay(img, 4, 1, 12, 3, 6) },
		"the one node of both": func(img []byte) {
			lay(img, 4, 1, 12)
			lay(img, 15, 1, 0, 0, 12)
		},
	} {
		t.Run(name, func(t *testing.T) {
			img := small()
			change(img)
			holdRefused(t, img, 9, api.ErrTree)
		})
	}
}

// P10.1: pointers that lead back, to the root or to a node above.
func TestPointersBack(t *testing.T) {
	for i := range 8 {
		for _, x := range []struct{ at, level, back int }{
			{9, 2, 9}, {4, 1, 9}, {4, 1, 4}, {15, 1, 4}, {15, 1, 9},
			{12, 0, 9}, {12, 0, 4}, {12, 0, 12}, {3, 0, 12}, {6, 0, 9}, {6, 0, 4}, {6, 0, 15}, {6, 0, 6}, {6, 0, 3},
		} {
			img := small()
			_, ptr, _ := parsed(img[x.at*64 : x.at*64+64])
			lay(img, x.at, x.level, with(ptr[:], i, x.back)...)
			holdRefused(t, img, 9, api.ErrTree)
			img = small()
			lay(img, x.at, x.level, alone(i, x.back)...)
			holdRefused(t, img, 9, api.ErrTree)
		}
	}
}

// P10.1: a sector's block is no node's of the tree: of none of them, be it met ahead of the sector or behind it.
func TestSectorsInNodes(t *testing.T) {
	for _, low := range []int{12, 3, 20, 6} {
		for _, at := range smallNodes() {
			for i := range 8 {
				img := small()
				_, ptr, _ := parsed(img[low*64 : low*64+64])
				lay(img, low, 0, with(ptr[:], i, at)...)
				holdRefused(t, img, 9, api.ErrTree)
			}
		}
	}
}

// P10.1: one block may be many sectors', also all of them.
func TestBlocksOfManySectors(t *testing.T) {
	img := device(80)
	all := slices.Repeat([]int{79}, 8)
	lay(img, 2, 2, 3, 4, 5, 6, 7, 8, 9, 10)
	nodes := []int{2}
	for i := range 8 {
		var ptr []int
		nodes = append(nodes, 3+i)
		for k := range 8 {
			lay(img, 11+8*i+k, 0, all...)
			ptr = append(ptr, 11+8*i+k)
		}
		lay(img, 3+i, 1, ptr...)
		nodes = append(nodes, ptr...)
	}
	holdTree(t, img, 2, slices.Repeat([]int{79}, 512), nodes)
}

// P10.1: a sector's block is of any bytes, also those of a node, of any level, wherever it leads.
func TestSectorsOfAnyBytes(t *testing.T) {
	some := [][]byte{
		bytes.Repeat([]byte{0xFF}, 64),
		[]byte("NODE"),
		laid(0, [8]int{21}), laid(1, [8]int{12}), laid(2, [8]int{4}), laid(2, [8]int{9}), laid(1, [8]int{15}),
		laid(0, [8]int{4095}), laid(2, [8]int{4095}), laid(3, [8]int{}), laid(0, [8]int{}),
		small()[9*64 : 10*64], small()[4*64 : 5*64], small()[12*64 : 13*64],
	}
	for _, b := range some {
		for _, at := range []int{21, 5, 23, 22, 2} {
			img := small()
			set(img, at, b)
			holdTree(t, img, 9, mapOf(smallMap()), smallNodes())
		}
	}
}

// P10.1: what is not met is of any bytes, nodes that share with the tree too.
func TestBlocksBesideTheTree(t *testing.T) {
	used := smallNodes()
	for _, b := range [][]byte{bytes.Repeat([]byte{0xFF}, 64), laid(2, [8]int{4, 15}), laid(1, [8]int{12}), laid(0, [8]int{9})} {
		img := small()
		for at := range 24 {
			if !slices.Contains(used, at) {
				set(img, at, b)
			}
		}
		holdTree(t, img, 9, mapOf(smallMap()), smallNodes())
	}
	// Another tree that shares nodes is one as well.
	img := small()
	lay(img, 19, 2, 0, 15, 4)
	holdTree(t, img, 9, mapOf(smallMap()), smallNodes())
	m := mapOf(map[int]int{72: 21, 73: 22, 74: 21, 127: 2, 128: 21, 135: 5, 137: 23})
	holdTree(t, img, 19, m, []int{19, 15, 20, 6, 4, 12, 3})
}

// T4: each bit of a node's block, changed, makes it none; each of any other block changes nothing.
func TestEveryBit(t *testing.T) {
	m, nodes := mapOf(smallMap()), smallNodes()
	img := small()
	for at := range len(img) {
		for bit := range 8 {
			img[at] ^= 1 << bit
			gotMap, e := Map(img, 9)
			gotNodes, f := Nodes(img, 9)
			if slices.Contains(nodes, at/64) {
				if len(gotMap)+len(gotNodes) != 0 || e != api.ErrTree || f != api.ErrTree {
					t.Errorf("byte %d, bit %d: %d, %d", at, bit, e, f)
				}
			} else if !slices.Equal(gotMap, m) || !slices.Equal(gotNodes, nodes) || e != api.OK || f != api.OK {
				t.Errorf("byte %d, bit %d: %v, %v, %d, %d", at, bit, gotMap, gotNodes, e, f)
			}
			img[at] ^= 1 << bit
		}
	}
}

// parsed answers the node that b is, told here by other means than the program's.
func parsed(b []byte) (level int, ptr [8]int, ok bool) {
	word := func(at int) int { return int(binary.LittleEndian.Uint32(b[at:])) }
	if string(b[:4]) != "NODE" || !bytes.Equal(b, sealed(b)) || !bytes.Equal(b[40:60], make([]byte, 20)) || word(4) > 2 {
		return 0, ptr, false
	}
	some := false
	for i := range ptr {
		ptr[i] = word(8 + 4*i)
		if ptr[i] == 1 || ptr[i] > 4095 {
			return 0, [8]int{}, false
		}
		some = some || ptr[i] != 0
	}
	return word(4), ptr, some
}

// model answers a tree's map and nodes, sector by sector: by other means than the program's.
func model(img []byte, root int) (m, nodes []int, ok bool) {
	blocks := len(img) / 64
	m = make([]int, 512)
	if root == 0 {
		return m, nil, true
	}
	// ways are those on which a node is met: two of one block make it none.
	ways := map[int][3]int{}
	step := func(at, level int, way [3]int) (ptr [8]int, ok bool) {
		if at < 2 || at >= blocks {
			return ptr, false
		}
		if w, met := ways[at]; met && w != way {
			return ptr, false
		} else if !met {
			ways[at] = way
			nodes = append(nodes, at)
		}
		l, ptr, ok := parsed(img[at*64 : at*64+64])
		return ptr, ok && l == level
	}
	for s := range 512 {
		at := root
		for level := 2; level >= 0 && at != 0; level-- {
			below := []int{1, 8, 64}[level]
			ptr, ok := step(at, level, [3]int{level, s / (below * 8), 1})
			if !ok {
				return nil, nil, false
			}
			at = ptr[s/below%8]
		}
		if at >= blocks {
			return nil, nil, false
		}
		m[s] = at
	}
	for _, at := range m {
		if slices.Contains(nodes, at) {
			return nil, nil, false
		}
	}
	return m, nodes, true
}

// dice answers numbers below n, the same ones in each run.
func dice() func(n int) int {
	x := uint64(88172645463325252)
	return func(n int) int {
		x ^= x << 13
		x ^= x >> 7
		x ^= x << 17
		return int(x >> 33 % uint64(n))
	}
}

// T4: devices of nodes whose levels and pointers are thrown, mostly near to right ones.
func TestThrownDevices(t *testing.T) {
	roll := dice()
	// Of six blocks each is mostly of the level that kinds tells, the last one a sector's; fit tells to which ones a level's pointers lead.
	kinds := []int{2, 1, 0, 1, 0, 0}
	fit := [4][2]int{{5, 5}, {2, 4}, {1, 3}, {0, 5}}
	taken := 0
	for range 4000 {
		blocks := 6 + roll(20)
		img := device(blocks)
		for at := range img {
			if roll(50) == 0 {
				img[at] = byte(roll(256))
			}
		}
		for at := range blocks {
			level := kinds[at%6]
			if roll(20) == 0 {
				level = roll(4)
			}
			var ptr [8]int
			for range 1 + roll(3) {
				next := roll(blocks)
				if roll(4) > 0 {
					next = next/6*6 + fit[level][roll(2)]
				}
				ptr[roll(8)] = next
			}
			if at%6 != 5 || roll(2) == 0 {
				set(img, at, laid(level, ptr))
			}
		}
		for root := -1; root <= blocks; root++ {
			m, nodes, ok := model(img, root)
			if ok && root != 0 {
				taken++
			}
			want := api.OK
			if !ok {
				want = api.ErrTree
			}
			gotMap, e := Map(img, root)
			gotNodes, f := Nodes(img, root)
			if !slices.Equal(gotMap, m) || !slices.Equal(gotNodes, nodes) || e != want || f != want {
				t.Fatalf("root %d of %v: %v, %v, %d, %d, want %v, %v, %d", root, img, gotMap, gotNodes, e, f, m, nodes, want)
			}
			s := roll(512)
			if at, e := Sector(img, root, s); e != want || ok && at != m[s] || !ok && at != 0 {
				t.Fatalf("root %d, sector %d of %v: %d, %d", root, s, img, at, e)
			}
			holdFew(t, gotMap, gotNodes)
		}
	}
	if taken < 500 {
		t.Errorf("only %d trees were thrown", taken)
	}
}

// T4: devices of bytes that are thrown are refused but at root 0.
func TestThrownBytes(t *testing.T) {
	roll := dice()
	for range 200 {
		img := device(4 + roll(60))
		for at := range img {
			img[at] = byte(roll(256))
		}
		for at := range len(img) / 64 {
			if roll(2) == 0 {
				copy(img[at*64:], "NODE\x02\x00\x00\x00")
			}
		}
		for root := range len(img)/64 + 1 {
			gotMap, e := Map(img, root)
			gotNodes, f := Nodes(img, root)
			if root == 0 {
				if !slices.Equal(gotMap, make([]int, 512)) || len(gotNodes) != 0 || e != api.OK || f != api.OK {
					t.Errorf("root 0: %v, %v, %d, %d", gotMap, gotNodes, e, f)
				}
			} else if len(gotMap)+len(gotNodes) != 0 || e != api.ErrTree || f != api.ErrTree {
				t.Errorf("root %d: %v, %v, %d, %d", root, gotMap, gotNodes, e, f)
			}
		}
	}
}

// R1: nodes whose every pointer leads back are refused, and soon.
func TestNodesThatLeadNowhere(t *testing.T) {
	for level := range 3 {
		img := device(16)
		for at := range 16 {
			lay(img, at, level, slices.Repeat([]int{at}, 8)...)
		}
		for root := 1; root < 16; root++ {
			holdRefused(t, img, root, api.ErrTree)
		}
	}
	// Here all levels are right: 73 ways lead to three blocks.
	img := device(8)
	lay(img, 2, 2, 3, 3, 3, 3, 3, 3, 3, 3)
	lay(img, 3, 1, 4, 4, 4, 4, 4, 4, 4, 4)
	lay(img, 4, 0, 5, 5, 5, 5, 5, 5, 5, 5)
	holdRefused(t, img, 2, api.ErrTree)
}

// P10.1: Sector, the tree's error comes ahead of the sector's, the device's ahead of both.
func TestSectorsErrors(t *testing.T) {
	img := small()
	for _, x := range []struct {
		img          []byte
		root, sector int
		block        int
		want         api.Errno
	}{
		{img, 9, 0, 21, api.OK}, {img, 9, 7, 5, api.OK}, {img, 9, 191, 2, api.OK}, {img, 9, 511, 0, api.OK}, {img, 9, 1, 0, api.OK},
		{img, 9, -1, 0, api.ErrRange}, {img, 9, 512, 0, api.ErrRange},
		{img, 0, 0, 0, api.OK}, {img, 0, 511, 0, api.OK}, {img, 0, -1, 0, api.ErrRange}, {img, 0, 512, 0, api.ErrRange},
		{img, 4, 0, 0, api.ErrTree}, {img, 4, -1, 0, api.ErrTree}, {img, 4, 512, 0, api.ErrTree}, {img, -1, -1, 0, api.ErrTree},
		{img[:255], 9, 0, 0, api.ErrLen}, {img[:255], 9, -1, 0, api.ErrLen}, {img[:255], 4, 512, 0, api.ErrLen}, {nil, 0, 512, 0, api.ErrLen},
		{one(511), 2, 511, 5, api.OK}, {one(511), 2, 512, 0, api.ErrRange}, {one(0), 2, 0, 5, api.OK}, {one(0), 2, -1, 0, api.ErrRange},
	} {
		if at, e := Sector(x.img, x.root, x.sector); at != x.block || e != x.want {
			t.Errorf("Sector of %d bytes, %d, %d: %d, %d, want %d, %d", len(x.img), x.root, x.sector, at, e, x.block, x.want)
		}
	}
}

// P10.1: Sector asks the whole tree, not its own way alone.
func TestSectorAsksTheWholeTree(t *testing.T) {
	img := small()
	set(img, 6, make([]byte, 64))
	for s := range 512 {
		if at, e := Sector(img, 9, s); at != 0 || e != api.ErrTree {
			t.Errorf("sector %d: %d, %d", s, at, e)
		}
	}
}

// P10.1: Check, how many places there are, which comes ahead of what they are.
func TestCheckOfLengths(t *testing.T) {
	for _, n := range []int{0, 1, 8, 64, 510, 511, 513, 514, 1024} {
		for _, at := range []int{0, 1, 2, -1, 4096} {
			for _, blocks := range []int{math.MinInt, -1, 0, 4, 4096, math.MaxInt} {
				if e := Check(slices.Repeat([]int{at}, n), blocks); e != api.ErrLen {
					t.Errorf("Check of %d places of %d: %d", n, at, e)
				}
			}
		}
	}
	if e := Check(nil, 4); e != api.ErrLen {
		t.Errorf("Check of nil: %d", e)
	}
	// What lies behind a list's length is not of it.
	room := append(make([]int, 512), 1, 1)[:512]
	if e := Check(room, 4); e != api.OK {
		t.Errorf("Check of a map with room: %d", e)
	}
	if e := Check(room[:511], 4); e != api.ErrLen {
		t.Errorf("Check of a map one place short, with room: %d", e)
	}
}

// P10.1: Check, each place at its edges, at any number of blocks.
func TestCheckOfPlaces(t *testing.T) {
	some := []int{math.MinInt, math.MinInt + 1, -1 << 32, -4, -1, 0, 1, 2, 3, 4, 5, 24, 4095, 4096, 4097, 1 << 32, 1<<32 + 2, math.MaxInt - 1, math.MaxInt}
	for _, blocks := range some {
		ats := slices.Clone(some)
		if blocks > math.MinInt && blocks < math.MaxInt {
			ats = append(ats, blocks-1, blocks+1)
		}
		for _, at := range ats {
			want := api.ErrArg
			if at == 0 || at >= 2 && at < blocks {
				want = api.OK
			}
			for _, place := range []int{0, 1, 7, 8, 255, 510, 511} {
				m := make([]int, 512)
				m[place] = at
				if e := Check(m, blocks); e != want {
					t.Errorf("Check with %d at %d of %d blocks: %d, want %d", at, place, blocks, e, want)
				}
			}
			if e := Check(slices.Repeat([]int{at}, 512), blocks); e != want {
				t.Errorf("Check of all %d of %d blocks: %d, want %d", at, blocks, e, want)
			}
		}
	}
}

// P10.1: Check, one place that may not be, among others that may, each place.
func TestCheckOfEachPlace(t *testing.T) {
	for place := range 512 {
		m := slices.Repeat([]int{3}, 512)
		for _, at := range []int{0, 2, 4, 9} {
			m[place] = at
			if e := Check(m, 10); e != api.OK {
				t.Errorf("Check with %d at %d: %d", at, place, e)
			}
		}
		for _, at := range []int{-1, 1, 10, 11} {
			m[place] = at
			if e := Check(m, 10); e != api.ErrArg {
				t.Errorf("Check with %d at %d: %d", at, place, e)
			}
		}
	}
}

// holdFew holds against the most nodes that a tree of so many sectors may have.
func holdFew(t *testing.T, m, nodes []int) {
	t.Helper()
	n := 0
	for _, at := range m {
		if at != 0 {
			n++
		}
	}
	if n == 0 && len(nodes) != 0 || n != 0 && len(nodes) > 1+min(n, 8)+min(n, 64) {
		t.Errorf("%d sectors have %d nodes", n, len(nodes))
	}
}

// P10.2: trees of a few sectors, as far from each other as may be, have as many nodes as that, and no more.
func TestFewNodes(t *testing.T) {
	for n := 1; n <= 64; n++ {
		img := device(140)
		// Sector i lies below pointer i%8 of the root, and below pointer i/8 of what that leads to.
		var top [8]int
		var mid [8][8]int
		for i := range n {
			top[i%8] = 3 + i%8
			mid[i%8][i/8] = 11 + i
			lay(img, 11+i, 0, alone(i%8, 75+i)...)
		}
		set(img, 2, laid(2, top))
		for i := range min(n, 8) {
			set(img, 3+i, laid(1, mid[i]))
		}
		m, e := Map(img, 2)
		nodes, f := Nodes(img, 2)
		if e != api.OK || f != api.OK || len(nodes) != 1+min(n, 8)+n {
			t.Errorf("%d sectors: %d, %d, %d nodes", n, e, f, len(nodes))
		}
		holdFew(t, m, nodes)
	}
	for s := range 512 {
		if nodes, e := Nodes(one(s), 2); len(nodes) != 3 || e != api.OK {
			t.Errorf("sector %d: %v, %d", s, nodes, e)
		}
	}
	if nodes, e := Nodes(full(), 2); len(nodes) != 73 || e != api.OK {
		t.Errorf("all sectors: %v, %d", nodes, e)
	}
}

// P10.2: a node that leads to no sector is none, so no tree has more nodes than its sectors ask.
func TestEmptyNodes(t *testing.T) {
	for i := range 8 {
		img := small()
		_, ptr, _ := parsed(img[9*64 : 10*64])
		lay(img, 9, 2, with(ptr[:], i, 10)...)
		lay(img, 10, 1)
		holdRefused(t, img, 9, api.ErrTree)
		lay(img, 10, 1, 11)
		lay(img, 11, 0)
		holdRefused(t, img, 9, api.ErrTree)
	}
	img := device(8)
	lay(img, 2, 2)
	holdRefused(t, img, 2, api.ErrTree)
}

// spared answers b with room behind that is full of c.
func spared(b []byte, c byte) []byte {
	return append(slices.Clone(b), bytes.Repeat([]byte{c}, 4096)...)[:len(b)]
}

// R2, R6: no argument is changed, its spare room neither, and what lies behind a device is not read.
func TestArgumentsStay(t *testing.T) {
	short := small()[:20*64]
	for _, img := range [][]byte{small(), full(), short, device(4), small()[:100], nil} {
		for _, root := range []int{-1, 0, 1, 2, 4, 9, 23, 24} {
			wantMap, e := Map(slices.Clip(slices.Clone(img)), root)
			for _, c := range []byte{0, 0xFF} {
				b := spared(img, c)
				gotMap, f := Map(b, root)
				Nodes(b, root)
				Sector(b, root, 7)
				Sector(b, root, -1)
				if !bytes.Equal(b, img) || !bytes.Equal(b[len(b):len(b)+4096], bytes.Repeat([]byte{c}, 4096)) {
					t.Errorf("root %d: the device of %d bytes is changed", root, len(img))
				}
				if !slices.Equal(gotMap, wantMap) || e != f {
					t.Errorf("root %d: the room behind %d bytes is read", root, len(img))
				}
			}
		}
	}
	// The blocks that the short device lacks stand in its room.
	room := small()[:20*64]
	holdRefused(t, room, 9, api.ErrTree)

	m := append(mapOf(smallMap()), 1, 2, 3)[:512]
	Check(m, 24)
	Check(m, 4)
	Check(m[:500], 24)
	if !slices.Equal(m[:515], append(mapOf(smallMap()), 1, 2, 3)) {
		t.Error("Check changed its map")
	}
}

// scrawl writes all over l, its spare room too.
func scrawl(l []int) {
	l = l[:cap(l)]
	for i := range l {
		l[i] = -7
	}
}

// R2, R3: each answer is memory of its own, and nothing of a call is kept.
func TestAnswersAreNew(t *testing.T) {
	img := small()
	for _, root := range []int{0, 9} {
		m, _ := Map(img, root)
		again, _ := Map(img, root)
		nodes, _ := Nodes(img, root)
		nodesAgain, _ := Nodes(img, root)
		want, wantNodes := slices.Clone(m), slices.Clone(nodes)
		scrawl(m)
		scrawl(nodes)
		if !slices.Equal(again, want) || !slices.Equal(nodesAgain, wantNodes) {
			t.Errorf("root %d: two answers share memory", root)
		}
		holdTree(t, img, root, want, wantNodes)
	}
	holdRefused(t, img, 4, api.ErrTree)
	holdTree(t, img, 9, mapOf(smallMap()), smallNodes())
	m, _ := Map(img, 9)
	for i := range img {
		img[i] = 0xFF
	}
	if !slices.Equal(m, mapOf(smallMap())) {
		t.Error("a map shares memory with its device")
	}
	holdRefused(t, img, 9, api.ErrTree)
}
