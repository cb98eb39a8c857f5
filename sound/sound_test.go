package sound

import (
	"slices"
	"testing"

	"woodcut/api"
	"woodcut/node"
	"woodcut/record"
	"woodcut/super"
)

// laid answers a block that is laid into an image: it is a right one.
func laid(b []byte, e api.Errno) []byte {
	if e != api.OK {
		panic(e)
	}
	return b
}

// set lays b into block at of img.
func set(img []byte, at int, b []byte) {
	copy(img[at*api.Block:(at+1)*api.Block], b)
}

func setNode(img []byte, at, level int, ptr ...int) {
	n := api.Node{Level: level}
	copy(n.Ptr[:], ptr)
	set(img, at, laid(node.Bytes(n)))
}

func setRecord(img []byte, at int, r api.Record) {
	set(img, at, laid(record.Bytes(r)))
}

// What small is made of: its superblock, its records and their blocks.
func smallSuper() api.Super {
	return api.Super{Gen: 1, Blocks: 16, Root: 2, Size: 9, First: 8}
}

func smallRecords() []api.Record {
	return []api.Record{{Next: 7, Id: 3, Root: 5, Size: 8, Kind: api.Pending, Frames: 1}, {Next: 9, Id: 2, Root: 2, Size: 512}, {Id: 1}}
}

func smallPlaces() []int {
	return []int{8, 7, 9}
}

// small answers an image of 16 blocks with two trees: the nodes 2, 3, 4 and the sector's block 10; the nodes 5, 6, 4.
func small() []byte {
	img := make([]byte, 16*api.Block)
	set(img, 0, laid(super.Bytes(smallSuper())))
	for i, r := range smallRecords() {
		setRecord(img, smallPlaces()[i], r)
	}
	setNode(img, 2, 2, 3)
	setNode(img, 3, 1, 4)
	setNode(img, 4, 0, 10)
	setNode(img, 5, 2, 6)
	setNode(img, 6, 1, 4)
	return img
}

func holdRecords(t *testing.T, name string, img []byte, first, many, bad int) {
	t.Helper()
	l, places, got := Records(img, first)
	if got != bad || !slices.Equal(l, smallRecords()[:many]) || !slices.Equal(places, smallPlaces()[:many]) {
		t.Errorf("%s: %v, %v, %d, want %d of them, %d", name, l, places, got, many, bad)
	}
}

// P11.1, P16.1: the records, up to the first block that is none of them.
func TestRecords(t *testing.T) {
	holdRecords(t, "small", small(), 8, 3, 0)
	holdRecords(t, "no records", small(), 0, 0, 0)
	for _, first := range []int{-1, 1, 2, 10, 15, 16, 4095} {
		holdRecords(t, "no record", small(), first, 0, first)
	}
	for i, at := range smallPlaces() {
		img := small()
		set(img, at, make([]byte, api.Block))
		holdRecords(t, "no record", img, 8, i, at)
	}
	for name, last := range map[string]api.Record{"an Id that stands twice": {Id: 3}, "a second Pending one": {Id: 9, Kind: api.Pending, Frames: 1}} {
		img := small()
		setRecord(img, 9, last)
		holdRecords(t, name, img, 8, 2, 9)
	}
}

func holdTrees(t *testing.T, name string, img []byte, bad int) {
	t.Helper()
	if got := Trees(img, smallSuper(), smallRecords(), smallPlaces()); got != bad {
		t.Errorf("%s: %d, want %d", name, got, bad)
	}
}

// P11.1, P16.1: the first root of no right tree, or else the first block that is used as two things.
func TestTrees(t *testing.T) {
	holdTrees(t, "small", small(), 0)
	for _, x := range []struct {
		name string
		put  func(img []byte)
		bad  int
	}{
		{"a record as a sector's block", func(img []byte) { setNode(img, 4, 0, 9) }, 9},
		{"two records as sectors' blocks", func(img []byte) { setNode(img, 4, 0, 9, 8) }, 8},
		{"another tree's node as a sector's block", func(img []byte) { setNode(img, 5, 2, 6); setNode(img, 6, 1, 11); setNode(img, 11, 0, 8, 3) }, 3},
		{"its own node as a sector's block", func(img []byte) { setNode(img, 4, 0, 3) }, 2},
		{"a block from the Size on", func(img []byte) { setNode(img, 6, 1, 0, 4) }, 5},
		{"no node", func(img []byte) { set(img, 6, make([]byte, api.Block)) }, 5},
		{"two trees that are none", func(img []byte) { set(img, 4, make([]byte, api.Block)) }, 2},
	} {
		img := small()
		x.put(img)
		holdTrees(t, x.name, img, x.bad)
	}
}
