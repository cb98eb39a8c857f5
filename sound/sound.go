// Package sound tells where an image is not what layer 11 asks of it. It stands beside the layers: open refuses by it, fsck tells the block. See ../shared/doc/11-open.md.
package sound

import (
	"math/bits"
	"slices"

	"woodcut/api"
	"woodcut/dev"
	"woodcut/record"
	"woodcut/tree"
)

// firstBlock is the least block that may be a record's: those ahead of it are the slots.
const firstBlock = 2

// Records answers the records of img from the one in block first on, and their blocks, up to the first block that is none of the records that there are to be: that is bad, or 0, if each is one.
func Records(img []byte, first int) (l []api.Record, places []int, bad int) {
	// A block that is met twice has one Id twice, so fits ends a way that leads back.
	for at := first; at != 0; {
		r, ok := read(img, at)
		if !ok || !fits(r, l) {
			return l, places, at
		}
		l = append(l, r)
		places = append(places, at)
		at = r.Next
	}
	return l, places, 0
}

// Trees answers the first root, of s, then of its records l, whose tree is no right one; if each is one, the first block that is used as two things; else 0. It is asked of the superblock that is picked of img, and of all its records and their places.
func Trees(img []byte, s api.Super, l []api.Record, places []int) (bad int) {
	u := make(uses, s.Blocks)
	u.take(places, asRecord)
	if !u.takeTree(img, s.Root, s.Size) {
		return s.Root
	}
	for _, r := range l {
		if !u.takeTree(img, r.Root, r.Size) {
			return r.Root
		}
	}
	return u.mixed()
}

// read answers the record at a block. Where img has no such block, or it is a slot, there is none.
func read(img []byte, at int) (api.Record, bool) {
	if at < firstBlock {
		return api.Record{}, false
	}
	b, e := dev.Read(img, at)
	if e != api.OK {
		return api.Record{}, false
	}
	r, e := record.Parse(b)
	return r, e == api.OK
}

// fits tells whether r may be the record behind those of l.
func fits(r api.Record, l []api.Record) bool {
	if slices.ContainsFunc(l, func(ahead api.Record) bool { return ahead.Id == r.Id }) {
		return false
	}
	if r.Kind == api.Pending {
		return len(l) == 0
	}
	return snapshots(l) < api.MaxSnaps
}

// snapshots answers how many of l are of Kind Whole.
func snapshots(l []api.Record) int {
	n := 0
	for _, r := range l {
		if r.Kind == api.Whole {
			n++
		}
	}
	return n
}

// What a block may be used as, by all trees and records of an image: a bit each.
const (
	asRecord = 1 << iota
	asNode
	asSector
)

// uses tells of each block of a device what it is used as.
type uses []int

// takeTree takes all blocks of the tree of that root. It tells whether that is a tree of so many sectors; if not, nothing is taken.
func (u uses) takeTree(img []byte, root, size int) bool {
	m, e := tree.Map(img, root)
	if e != api.OK || slices.ContainsFunc(m[size:], isBlock) {
		return false
	}
	// What is a tree to tree.Map is one to tree.Nodes.
	nodes, _ := tree.Nodes(img, root)
	u.take(nodes, asNode)
	u.take(m, asSector)
	return true
}

// take takes blocks for one use, beside those that they have.
func (u uses) take(blocks []int, use int) {
	for _, at := range blocks {
		if isBlock(at) {
			u[at] |= use
		}
	}
}

// mixed answers the first block of more than one use: 0, if there is none, as a slot has none.
func (u uses) mixed() int {
	for at, use := range u {
		if bits.OnesCount(uint(use)) > 1 {
			return at
		}
	}
	return 0
}

// isBlock tells whether a place of a map is a block, not 0: none.
func isBlock(at int) bool {
	return at != 0
}
