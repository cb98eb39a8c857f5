package alloc

import (
	"bytes"
	"encoding/binary"
	"math"
	"slices"
	"strconv"
	"testing"

	"woodcut/api"
	"woodcut/node"
	"woodcut/open"
	"woodcut/record"
	"woodcut/super"
	"woodcut/walk"
)

// most is the greatest count that may be, maxBlocks how many counts.
const (
	most      = 2147483647
	maxBlocks = 4096
)

// wrongCounts answers counts that may not be, of both sides of those that may.
func wrongCounts() []int {
	return []int{-1, -2, -most, -most - 1, -most - 2, math.MinInt + 1, math.MinInt, most + 1, most + 2, 1 << 32, 1<<32 + 1, math.MaxInt - 1, math.MaxInt}
}

// farPlaces answers places that no list has.
func farPlaces() []int {
	return []int{-1, -2, math.MinInt, math.MinInt + 1, maxBlocks, maxBlocks + 1, most, 1 << 32, math.MaxInt - 1, math.MaxInt}
}

// eachList calls f with every list of up to length items that are of these.
func eachList(length int, of []int, f func(l []int)) {
	var grow func(l []int)
	grow = func(l []int) {
		f(slices.Clone(l))
		if len(l) == length {
			return
		}
		for _, n := range of {
			grow(append(l, n))
		}
	}
	grow(make([]int, 0, length))
}

func show(l []int) string {
	s := "["
	for i, n := range l {
		if i == 20 {
			return s + "and so on, " + strconv.Itoa(len(l)) + "]"
		}
		s += strconv.Itoa(n) + " "
	}
	return s + "]"
}

func holdFree(t *testing.T, counts, want []int) {
	t.Helper()
	if l, e := Free(counts); !slices.Equal(l, want) || e != api.OK {
		t.Errorf("Free(%s): %s, %d, want %s", show(counts), show(l), e, show(want))
	}
}

func holdTake(t *testing.T, free []int, n int, taken, rest []int, want api.Errno) {
	t.Helper()
	a, b, e := Take(free, n)
	if !slices.Equal(a, taken) || !slices.Equal(b, rest) || e != want {
		t.Errorf("Take(%s, %d): %s, %s, %d, want %s, %s, %d", show(free), n, show(a), show(b), e, show(taken), show(rest), want)
	}
}

// holdMore and holdLess hold what is answered where the call is not refused: only the count at that place is another one.
func holdMore(t *testing.T, counts []int, at int) {
	t.Helper()
	want := slices.Clone(counts)
	want[at]++
	if l, e := More(counts, at); !slices.Equal(l, want) || e != api.OK {
		t.Errorf("More(%s, %d): %s, %d, want %s", show(counts), at, show(l), e, show(want))
	}
}

func holdLess(t *testing.T, counts []int, at int) {
	t.Helper()
	want := slices.Clone(counts)
	want[at]--
	if l, e := Less(counts, at); !slices.Equal(l, want) || e != api.OK {
		t.Errorf("Less(%s, %d): %s, %d, want %s", show(counts), at, show(l), e, show(want))
	}
}

func moreRefused(t *testing.T, counts []int, at int, want api.Errno) {
	t.Helper()
	if l, e := More(counts, at); len(l) != 0 || e != want {
		t.Errorf("More(%s, %d): %s, %d, want %d", show(counts), at, show(l), e, want)
	}
}

func lessRefused(t *testing.T, counts []int, at int, want api.Errno) {
	t.Helper()
	if l, e := Less(counts, at); len(l) != 0 || e != want {
		t.Errorf("Less(%s, %d): %s, %d, want %d", show(counts), at, show(l), e, want)
	}
}

func freeRefused(t *testing.T, counts []int) {
	t.Helper()
	if l, e := Free(counts); len(l) != 0 || e != api.ErrArg {
		t.Errorf("Free(%s): %s, %d, want ErrArg", show(counts), show(l), e)
	}
}

func holdLeft(t *testing.T, name string, img []byte, want int) {
	t.Helper()
	if n, e := Left(img); n != want || e != api.OK {
		t.Errorf("%s: Left: %d, %d, want %d", name, n, e, want)
	}
}

func leftRefused(t *testing.T, name string, img []byte, want api.Errno) {
	t.Helper()
	if n, e := Left(img); n != 0 || e != want {
		t.Errorf("%s: Left: %d, %d, want error %d", name, n, e, want)
	}
}

// P13.1: the chapter's example.
func TestExample(t *testing.T) {
	holdFree(t, []int{1, 1, 0, 2, 0}, []int{2, 4})
}

// P13.1: no counts, one, two: none of these is free. Of three the last one may be.
func TestFreeOfFew(t *testing.T) {
	holdFree(t, nil, nil)
	holdFree(t, []int{}, nil)
	for _, a := range []int{0, 1, most} {
		holdFree(t, []int{a}, nil)
		for _, b := range []int{0, 1, most} {
			holdFree(t, []int{a, b}, nil)
			holdFree(t, []int{a, b, 0}, []int{2})
			holdFree(t, []int{a, b, 1}, nil)
			holdFree(t, []int{a, b, most}, nil)
		}
	}
}

// P13.1: every list of up to seven counts, each from the ends of those that may be.
func TestFreeOfEachList(t *testing.T) {
	eachList(7, []int{0, 1, 2, most}, func(counts []int) {
		var want []int
		for at, n := range counts {
			if n == 0 && at != 0 && at != 1 {
				want = append(want, at)
			}
		}
		holdFree(t, counts, want)
	})
}

// P13.1: a count of 0 in a slot is not free, whatever is behind.
func TestSlotsAreNotFree(t *testing.T) {
	for _, slots := range [][]int{{0, 0}, {0, 1}, {1, 0}} {
		holdFree(t, append(slices.Clone(slots), 0, 0), []int{2, 3})
		holdFree(t, append(slices.Clone(slots), 3, 0), []int{3})
		holdFree(t, append(slices.Clone(slots), 3, most), nil)
	}
}

// P13.1: nothing free, all free, one free, one not free: of few counts and of as many as may be.
func TestFreeOfLongLists(t *testing.T) {
	for _, size := range []int{4, 5, 255, 256, 257, 4094, 4095, maxBlocks} {
		var all []int
		for at := 2; at < size; at++ {
			all = append(all, at)
		}
		holdFree(t, make([]int, size), all)
		for _, n := range []int{1, 2, most - 1, most} {
			full := slices.Repeat([]int{n}, size)
			holdFree(t, full, nil)
			for _, at := range []int{2, 3, size / 2, size - 2, size - 1} {
				one := slices.Clone(full)
				one[at] = 0
				holdFree(t, one, []int{at})
				but := make([]int, size)
				but[at] = n
				holdFree(t, but, slices.Concat(all[:at-2], all[at-1:]))
			}
		}
	}
	if l, e := Free(make([]int, maxBlocks)); len(l) != 4094 || e != api.OK {
		t.Errorf("Free of 4096 zeros: %d, %d", len(l), e)
	}
}

// P13.1: counts that are none, at each place of a list, a slot's too: refused ahead of all that More and Less look at.
func TestWrongCounts(t *testing.T) {
	hold := func(counts []int, ats ...int) {
		t.Helper()
		freeRefused(t, counts)
		for _, at := range append(farPlaces(), ats...) {
			moreRefused(t, counts, at, api.ErrArg)
			lessRefused(t, counts, at, api.ErrArg)
		}
	}
	for _, wrong := range wrongCounts() {
		for size := 1; size <= 5; size++ {
			for place := range size {
				for _, other := range []int{0, 1, most} {
					counts := slices.Repeat([]int{other}, size)
					counts[place] = wrong
					hold(counts, 0, 1, 2, 3, 4, 5)
				}
			}
		}
		for _, place := range []int{0, 1, 2, 2048, 4095} {
			counts := slices.Repeat([]int{1}, maxBlocks)
			counts[place] = wrong
			hold(counts, 0, 2, place, 4095)
		}
	}
	// Two that are none, of which a sum would be right.
	hold([]int{1, 1, -1, most + 1}, 0, 2, 3)
}

// P13.1: more than MaxBlocks counts are refused, whatever they are; just as many are not.
func TestTooManyCounts(t *testing.T) {
	for _, n := range []int{0, 1, most} {
		for _, size := range []int{maxBlocks + 1, maxBlocks + 2, 2 * maxBlocks, 1 << 16} {
			counts := slices.Repeat([]int{n}, size)
			freeRefused(t, counts)
			for _, at := range append(farPlaces(), 0, 2, 4095, size-1, size) {
				moreRefused(t, counts, at, api.ErrArg)
				lessRefused(t, counts, at, api.ErrArg)
			}
		}
	}
	for _, at := range []int{0, 1, 2, 2047, 4094, 4095} {
		counts := slices.Repeat([]int{5}, maxBlocks)
		holdMore(t, counts, at)
		holdLess(t, counts, at)
		moreRefused(t, counts, 4096, api.ErrRange)
		lessRefused(t, counts, 4096, api.ErrRange)
	}
}

// lists answers lists to take from: the document asks nothing of them.
func lists() [][]int {
	return [][]int{
		nil, {}, {2}, {2, 3}, {2, 3, 4}, {2, 4, 9, 4095},
		{4, 3, 2}, {3, 9, 5}, {7, 7}, {7, 2, 7}, {2, 2, 3, 3}, {0}, {0, 0, 1},
		{-1, 5}, {math.MinInt, math.MaxInt, 0}, {4096, 1 << 40},
	}
}

// P13.1: Take of none of a list, of all of it, of each number between these, of one more and of far more, of fewer than none.
func TestTake(t *testing.T) {
	long := make([]int, 5000)
	for i := range long {
		long[i] = 7 * i % 4999
	}
	for _, free := range append(lists(), long) {
		for n := range len(free) + 1 {
			holdTake(t, free, n, free[:n], free[n:], api.OK)
		}
		for _, n := range []int{len(free) + 1, len(free) + 2, 2*len(free) + 1, 5001, most, most + 1, 1 << 32, math.MaxInt - 1, math.MaxInt} {
			holdTake(t, free, n, nil, nil, api.ErrSpace)
		}
		// The number below 0 is told of an empty list too, and where it is more than the list has but for its sign.
		for _, n := range []int{-1, -2, -len(free) - 1, -5001, -most, -most - 2, -1 << 32, math.MinInt + 1, math.MinInt} {
			holdTake(t, free, n, nil, nil, api.ErrArg)
		}
	}
}

// P13.1: what Take answers, told by hand.
func TestTakeByHand(t *testing.T) {
	holdTake(t, []int{2, 4}, 1, []int{2}, []int{4}, api.OK)
	holdTake(t, []int{2, 4}, 0, nil, []int{2, 4}, api.OK)
	holdTake(t, []int{2, 4}, 2, []int{2, 4}, nil, api.OK)
	holdTake(t, []int{2, 4}, 3, nil, nil, api.ErrSpace)
	holdTake(t, []int{2, 4}, -1, nil, nil, api.ErrArg)
	holdTake(t, []int{9, 5, 5, 6}, 2, []int{9, 5}, []int{5, 6}, api.OK)
	holdTake(t, nil, 0, nil, nil, api.OK)
	holdTake(t, nil, 1, nil, nil, api.ErrSpace)
	holdTake(t, nil, -1, nil, nil, api.ErrArg)
}

// P13.1: every place of every short list, counts from both ends.
func TestMoreAndLessOfEachList(t *testing.T) {
	eachList(5, []int{0, 1, most - 1, most}, func(counts []int) {
		for at, n := range counts {
			if n == most {
				moreRefused(t, counts, at, api.ErrArg)
			} else {
				holdMore(t, counts, at)
			}
			if n == 0 {
				lessRefused(t, counts, at, api.ErrArg)
			} else {
				holdLess(t, counts, at)
			}
		}
		for _, at := range append(farPlaces(), len(counts), len(counts)+1, -len(counts)-1) {
			moreRefused(t, counts, at, api.ErrRange)
			lessRefused(t, counts, at, api.ErrRange)
		}
	})
}

// P13.1: one more and one less, told by hand: at both ends of a list, at both ends of a count.
func TestMoreAndLessByHand(t *testing.T) {
	for _, x := range []struct {
		counts     []int
		at         int
		more, less []int
		e, f       api.Errno
	}{
		{[]int{1, 1, 0, 2, 0}, 0, []int{2, 1, 0, 2, 0}, []int{0, 1, 0, 2, 0}, api.OK, api.OK},
		{[]int{1, 1, 0, 2, 0}, 2, []int{1, 1, 1, 2, 0}, nil, api.OK, api.ErrArg},
		{[]int{1, 1, 0, 2, 0}, 3, []int{1, 1, 0, 3, 0}, []int{1, 1, 0, 1, 0}, api.OK, api.OK},
		{[]int{1, 1, 0, 2, 0}, 4, []int{1, 1, 0, 2, 1}, nil, api.OK, api.ErrArg},
		{[]int{1, 1, 0, 2, 0}, 5, nil, nil, api.ErrRange, api.ErrRange},
		{[]int{1, 1, 0, 2, 0}, -1, nil, nil, api.ErrRange, api.ErrRange},
		{[]int{1, 1, 0, 2, 0}, math.MinInt, nil, nil, api.ErrRange, api.ErrRange},
		{[]int{1, 1, 0, 2, 0}, math.MaxInt, nil, nil, api.ErrRange, api.ErrRange},
		{[]int{2147483647}, 0, nil, []int{2147483646}, api.ErrArg, api.OK},
		{[]int{2147483646}, 0, []int{2147483647}, []int{2147483645}, api.OK, api.OK},
		{[]int{1}, 0, []int{2}, []int{0}, api.OK, api.OK},
		{[]int{0}, 0, []int{1}, nil, api.OK, api.ErrArg},
		// The other end's count is no hindrance, nor is one at another place.
		{[]int{most, 0, 0}, 1, []int{most, 1, 0}, nil, api.OK, api.ErrArg},
		{[]int{0, most, most}, 1, nil, []int{0, most - 1, most}, api.ErrArg, api.OK},
		{nil, 0, nil, nil, api.ErrRange, api.ErrRange},
		{[]int{}, -1, nil, nil, api.ErrRange, api.ErrRange},
	} {
		more, e := More(x.counts, x.at)
		less, f := Less(x.counts, x.at)
		if !slices.Equal(more, x.more) || !slices.Equal(less, x.less) || e != x.e || f != x.f {
			t.Errorf("%s at %d: more %s, %d, less %s, %d", show(x.counts), x.at, show(more), e, show(less), f)
		}
	}
}

// P13.1: which error is told where two would do: the counts' is ahead of the place's, the place's ahead of the count's at it.
func TestOrderOfErrors(t *testing.T) {
	for _, x := range []struct {
		counts []int
		at     int
		want   api.Errno
	}{
		{[]int{-1}, 1, api.ErrArg}, {[]int{most + 1}, -1, api.ErrArg}, {make([]int, maxBlocks+1), maxBlocks + 1, api.ErrArg},
		{[]int{0, 0, -1}, 3, api.ErrArg}, {[]int{most, most, most + 1}, math.MinInt, api.ErrArg},
		{[]int{0}, 1, api.ErrRange}, {[]int{most}, 1, api.ErrRange}, {[]int{most, 0}, -1, api.ErrRange}, {[]int{0, most}, 2, api.ErrRange},
	} {
		moreRefused(t, x.counts, x.at, x.want)
		lessRefused(t, x.counts, x.at, x.want)
	}
}

// P13.1: one more and one less, and the other way about, is what was.
func TestMoreAndLessTogether(t *testing.T) {
	eachList(5, []int{0, 1, 2, most - 1, most}, func(counts []int) {
		for at, n := range counts {
			if n < most {
				more, _ := More(counts, at)
				if l, e := Less(more, at); !slices.Equal(l, counts) || e != api.OK {
					t.Errorf("one more and one less of %s at %d: %s, %d", show(counts), at, show(l), e)
				}
			}
			if n > 0 {
				less, _ := Less(counts, at)
				if l, e := More(less, at); !slices.Equal(l, counts) || e != api.OK {
					t.Errorf("one less and one more of %s at %d: %s, %d", show(counts), at, show(l), e)
				}
			}
		}
	})
	// From 0 up and back, step by step, each place but one left alone.
	counts := []int{1, 1, 0, most}
	for n := range 300 {
		if counts[2] != n {
			t.Fatalf("%d times more: %s", n, show(counts))
		}
		counts, _ = More(counts, 2)
	}
	for range 300 {
		counts, _ = Less(counts, 2)
	}
	if !slices.Equal(counts, []int{1, 1, 0, most}) {
		t.Errorf("300 times more and less: %s", show(counts))
	}
}

// P13.2: what is taken and what is left is what was free: nothing is lost, nothing is added, in its order.
func TestTakenAndLeft(t *testing.T) {
	eachList(6, []int{0, 0, 3}, func(counts []int) {
		free, _ := Free(counts)
		for n := range len(free) + 1 {
			taken, rest, e := Take(free, n)
			if e != api.OK || len(taken) != n || !slices.Equal(slices.Concat(taken, rest), free) {
				t.Errorf("%d of %s: %s, %s, %d", n, show(free), show(taken), show(rest), e)
			}
		}
	})
	for _, free := range lists() {
		for n := range len(free) + 1 {
			taken, rest, _ := Take(free, n)
			if !slices.Equal(slices.Concat(taken, rest), free) {
				t.Errorf("%d of %s: %s, %s", n, show(free), show(taken), show(rest))
			}
			// Taken again and again, one by one, it is the same.
			var one, all []int
			left := free
			for range n {
				one, left, _ = Take(left, 1)
				all = append(all, one...)
			}
			if !slices.Equal(all, taken) || !slices.Equal(left, rest) {
				t.Errorf("%d of %s one by one: %s, %s", n, show(free), show(all), show(left))
			}
		}
	}
}

// P13.2: blocks that are taken, and reached once more each, are no longer free, the others still are; reached once less they are free again.
func TestTakenAreNotFree(t *testing.T) {
	for _, counts := range [][]int{{1, 1, 0, 2, 0}, {1, 1, 0, 0, 0, 0}, {0, 0, 0, 7, 0, most, 0}, make([]int, 300)} {
		free, _ := Free(counts)
		for n := range len(free) + 1 {
			taken, rest, _ := Take(free, n)
			after := counts
			for _, at := range taken {
				after, _ = More(after, at)
			}
			holdFree(t, after, rest)
			for _, at := range taken {
				after, _ = Less(after, at)
			}
			holdFree(t, after, free)
		}
	}
}

// laid answers a block that its layer has made, or ends the tests: what they lay is right.
func laid(b []byte, e api.Errno) []byte {
	if e != api.OK {
		panic("a test lays what is not right: " + e.Error())
	}
	return b
}

// device answers one of so many blocks, all zeros.
func device(blocks int) []byte {
	return make([]byte, blocks*64)
}

// set lays b into block at of img.
func set(img []byte, at int, b []byte) {
	copy(img[at*64:(at+1)*64], b)
}

func nodeBlock(level int, ptr ...int) []byte {
	n := api.Node{Level: level}
	copy(n.Ptr[:], ptr)
	return laid(node.Bytes(n))
}

func setNode(img []byte, at, level int, ptr ...int) {
	set(img, at, nodeBlock(level, ptr...))
}

func setRecord(img []byte, at int, r api.Record) {
	set(img, at, laid(record.Bytes(r)))
}

// setSuper lays s into a slot of img, with as many Blocks as img has.
func setSuper(img []byte, slot int, s api.Super) {
	s.Blocks = len(img) / 64
	set(img, slot, laid(super.Bytes(s)))
}

func smallSuper() api.Super {
	return api.Super{Gen: 7, Root: 2, Size: 20, First: 10}
}

// small answers an image of 24 blocks: a head, a receive that stands open, two snapshots. All of them share blocks; 9, 16 to 19, 21 to 23 are free.
func small() []byte {
	img := device(24)
	setSuper(img, 1, smallSuper())
	setNode(img, 2, 2, 3)
	setNode(img, 3, 1, 4, 0, 5)
	setNode(img, 4, 0, 6, 7)
	setNode(img, 5, 0, 0, 6, 8)
	setRecord(img, 10, api.Record{Next: 12, Id: 40, Parent: 30, Root: 13, Size: 9, Kind: api.Pending, Frames: 4, Digest: 99})
	setRecord(img, 12, api.Record{Next: 11, Id: 30, Parent: 20, Root: 2, Size: 512})
	setRecord(img, 11, api.Record{Id: 20, Size: 3})
	setNode(img, 13, 2, 14)
	setNode(img, 14, 1, 4, 15)
	setNode(img, 15, 0, 20)
	for _, at := range []int{6, 7, 8, 20} {
		set(img, at, bytes.Repeat([]byte{byte(at)}, 64))
	}
	return img
}

const smallLeft = 8

// P13.1: a new image of each size: all blocks but the slots are free.
func TestLeftOfNewImages(t *testing.T) {
	for blocks := 4; blocks <= maxBlocks; blocks++ {
		holdLeft(t, "New of "+strconv.Itoa(blocks), laid(open.New(blocks)), blocks-2)
	}
}

// P13.1: an image with a head, a pending record and others, by hand; what its records lead to is free where they are left out.
func TestLeftOfSmall(t *testing.T) {
	holdLeft(t, "small", small(), smallLeft)
	for first, want := range map[int]int{10: 8, 12: 13, 11: 14, 0: 15} {
		img, s := small(), smallSuper()
		s.First = first
		setSuper(img, 1, s)
		holdLeft(t, "first "+strconv.Itoa(first), img, want)
	}
	// Without a head its tree is a record's still.
	img, s := small(), smallSuper()
	s.Root, s.Size = 0, 0
	setSuper(img, 1, s)
	holdLeft(t, "no head", img, smallLeft)
	s.First = 0
	setSuper(img, 1, s)
	holdLeft(t, "nothing", img, 22)
}

// P13.1: a head of one sector, of several that have one block, of many; heads with nothing left and with one block.
func TestLeftOfHeads(t *testing.T) {
	for _, blocks := range []int{6, 7, 8, 255, 256, 257, maxBlocks} {
		img := device(blocks)
		setNode(img, 2, 2, 3)
		setNode(img, 3, 1, 0, 4)
		setNode(img, 4, 0, 5)
		setSuper(img, 0, api.Super{Gen: 1, Root: 2, Size: 512})
		holdLeft(t, "one sector", img, blocks-6)
		setNode(img, 4, 0, 5, 5, 5, 5, 5, 5, 5, 5)
		holdLeft(t, "one block for eight sectors", img, blocks-6)
	}
	for _, blocks := range []int{75, 76, 77, 78, 300} {
		img := device(blocks)
		setNode(img, 2, 2, 3)
		setNode(img, 3, 1, 4, 5, 6, 7, 8, 9, 10, 11)
		for i := range 8 {
			at := 12 + 8*i
			// Where the last sector's block is beyond the device, it has the one ahead of it.
			setNode(img, 4+i, 0, at, at+1, at+2, at+3, at+4, at+5, at+6, min(at+7, blocks-1))
		}
		setSuper(img, 0, api.Super{Gen: 1, Root: 2, Size: 64})
		holdLeft(t, "64 sectors", img, max(0, blocks-76))
	}
}

// P13.1: each record of a chain takes one block, up to as many records as may be.
func TestLeftOfRecords(t *testing.T) {
	for _, blocks := range []int{63, 64, 200} {
		for n := 1; n <= 61; n++ {
			img := device(blocks)
			for i := range n {
				r := api.Record{Id: 1 + i, Next: 3 + i}
				if i == n-1 {
					r.Next = 0
				}
				if i == 0 && n == 61 {
					r.Kind, r.Frames = api.Pending, 1
				}
				setRecord(img, 2+i, r)
			}
			setSuper(img, 1, api.Super{Gen: 1, First: 2})
			holdLeft(t, strconv.Itoa(n)+" records", img, blocks-2-n)
		}
	}
}

// P13.1: the slots of the smallest device are not free, its other blocks are, till they are taken.
func TestLeftOfTheSmallestDevice(t *testing.T) {
	img := device(4)
	setSuper(img, 1, api.Super{Gen: 1 << 40, Size: 512})
	holdLeft(t, "no record", img, 2)
	setRecord(img, 3, api.Record{Id: 1})
	setSuper(img, 1, api.Super{Gen: 1, First: 3})
	holdLeft(t, "a record", img, 1)
	setRecord(img, 2, api.Record{Next: 3, Id: 2, Kind: api.Pending, Frames: 1})
	setSuper(img, 1, api.Super{Gen: 1, First: 2})
	holdLeft(t, "two records", img, 0)
}

// P13.1: what is free is free whatever bytes it holds.
func TestLeftWhateverLiesThere(t *testing.T) {
	for _, b := range [][]byte{bytes.Repeat([]byte{0xFF}, 64), nodeBlock(0, 20), nodeBlock(2, 3), laid(record.Bytes(api.Record{Id: 9, Next: 10})), laid(super.Bytes(api.Super{Gen: 9, Blocks: 24}))} {
		img := small()
		for _, at := range []int{9, 16, 17, 18, 19, 21, 22, 23} {
			set(img, at, b)
		}
		holdLeft(t, "free blocks of any bytes", img, smallLeft)
		set(img, 20, b)
		holdLeft(t, "a sector of any bytes", img, smallLeft)
	}
}

// P13.1: each error of walk.Counts.
func TestLeftRefused(t *testing.T) {
	leftRefused(t, "nil", nil, api.ErrLen)
	leftRefused(t, "no bytes", []byte{}, api.ErrLen)
	whole := append(small(), device(4074)...)
	for _, size := range []int{1, 63, 64, 192, 255, 257, 24*64 - 1, 24*64 + 1, 4096*64 - 1, 4096*64 + 1, 4097 * 64, 4098 * 64} {
		leftRefused(t, "a device of another size", whole[:size], api.ErrLen)
	}
	for _, blocks := range []int{4, 24, 4096} {
		leftRefused(t, "zeros", device(blocks), api.ErrImage)
		leftRefused(t, "ones", bytes.Repeat([]byte{0xFF}, blocks*64), api.ErrImage)
	}
	leftRefused(t, "another device's superblock", whole[:25*64], api.ErrImage)
	for _, at := range []int{10, 11, 12} {
		img := small()
		img[at*64] ^= 1
		leftRefused(t, "a broken record", img, api.ErrRecord)
	}
	for _, at := range []int{2, 3, 4, 5, 13, 14, 15} {
		img := small()
		img[at*64] ^= 1
		leftRefused(t, "a broken node", img, api.ErrTree)
	}
	img := small()
	setNode(img, 15, 0, 10)
	leftRefused(t, "a record as a sector", img, api.ErrTree)
	img[10*64] ^= 1
	leftRefused(t, "a broken record beside it", img, api.ErrRecord)
	img[64] ^= 1
	leftRefused(t, "a broken superblock beside it", img, api.ErrImage)
	leftRefused(t, "a byte less beside it", img[:len(img)-1], api.ErrLen)
}

// holdBeside holds Left against its neighbours, which tell of the same image, and answers the error of all of them.
func holdBeside(t *testing.T, name string, img []byte) api.Errno {
	t.Helper()
	counts, e := walk.Counts(img)
	if e != api.OK {
		leftRefused(t, name, img, e)
		return e
	}
	used, _ := walk.Used(img)
	holdLeft(t, name, img, len(img)/64-used)
	free, e := Free(counts)
	if e != api.OK || len(free) != len(img)/64-used {
		t.Errorf("%s: %s are free, %d", name, show(free), e)
	}
	return api.OK
}

// P13.1: what is left and what is used are all blocks, image by image, as snapshots of the head take the first free block each, up to the last one.
func TestLeftBesideUsed(t *testing.T) {
	// The Pending record is left out: it would not be the first any more.
	img, s := small(), smallSuper()
	s.First = 12
	setSuper(img, 1, s)
	for _, img := range [][]byte{img, laid(open.New(4)), laid(open.New(8)), laid(open.New(40)), laid(open.New(4096))} {
		left, e := Left(img)
		if e != api.OK {
			t.Fatalf("an image is refused: %d", e)
		}
		for k := range min(left, 50) {
			holdBeside(t, "an image", img)
			counts, _ := walk.Counts(img)
			free, _ := Free(counts)
			taken, rest, e := Take(free, 1)
			if e != api.OK || len(free) != left-k {
				t.Fatalf("%d snapshots more, ahead of them %d were left: %s are free, %d", k, left, show(free), e)
			}
			snapshot(img, taken[0], 100+k)
			counts, _ = walk.Counts(img)
			holdFree(t, counts, rest)
		}
		holdLeft(t, "as many snapshots as there is room for", img, max(0, left-50))
	}
}

// snapshot lays one more record into a free block of img, of the head's tree, ahead of all others.
func snapshot(img []byte, at, id int) {
	s, _ := open.Open(img)
	setRecord(img, at, api.Record{Next: s.Super.First, Id: id, Root: s.Super.Root, Size: s.Super.Size})
	s.Super.First = at
	s.Super.Gen++
	setSuper(img, 1-s.Slot, s.Super)
}

// T4: each bit of an image, changed: it is told how many are free, or why not.
func TestEveryBit(t *testing.T) {
	img := small()
	met := map[api.Errno]int{}
	for at := range len(img) {
		for bit := range 8 {
			img[at] ^= 1 << bit
			e := holdBeside(t, "byte "+strconv.Itoa(at)+", bit "+strconv.Itoa(bit), img)
			if e == api.OK {
				holdLeft(t, "a bit that nothing hangs on", img, smallLeft)
			}
			met[e]++
			img[at] ^= 1 << bit
		}
	}
	// One superblock, three records, seven nodes; all others may hold any bytes.
	for e, want := range map[api.Errno]int{api.ErrImage: 512, api.ErrRecord: 3 * 512, api.ErrTree: 7 * 512, api.OK: 13 * 512} {
		if met[e] != want {
			t.Errorf("error %d at %d bits, want %d", e, met[e], want)
		}
	}
}

// T4: every length of an image that is cut off.
func TestCutImages(t *testing.T) {
	img := small()
	for size := range len(img) {
		want := api.ErrLen
		if size%64 == 0 && size >= 256 {
			want = api.ErrImage
		}
		leftRefused(t, "cut off at "+strconv.Itoa(size), img[:size], want)
	}
}

// modelLeft answers how many blocks of a sound image are free, by other means than the program's: it goes from each root to each sector alone, and strikes out what it meets.
func modelLeft(img []byte, s api.State) int {
	word := func(block, place int) int { return int(binary.LittleEndian.Uint32(img[block*64+place*4:])) }
	blocks := map[int]int{}
	for at := 2; at < len(img)/64; at++ {
		blocks[at] = 1
	}
	strike := func(at int) {
		for sector := range 512 {
			to := at
			delete(blocks, to)
			for _, below := range []int{64, 8, 1} {
				if to == 0 {
					break
				}
				to = word(to, 2+sector/below%8)
				delete(blocks, to)
			}
		}
	}
	strike(word(s.Slot, 4))
	for at := word(s.Slot, 6); at != 0; at = word(at, 1) {
		delete(blocks, at)
		strike(word(at, 6))
	}
	return len(blocks)
}

// dice answers numbers below n, the same ones in each run.
func dice() func(n int) int {
	x := uint64(88172645463325252)
	return func(n int) int {
		x ^= x << 13
		x ^= x >> 7
		x ^= x << 17
		return int(x >> 33 % uint64(n))
	}
}

// thrown answers an image whose blocks are mostly of a right kind each: nodes of level 0, 1 and 2 in bands, sectors' blocks, records behind them.
func thrown(roll func(n int) int) []byte {
	blocks := 30 + roll(20)
	img := device(blocks)
	low := func() int { return 2 + roll(5) }
	middle := func() int { return 7 + roll(4) }
	root := func() int { return []int{0, 11, 12, 13}[roll(4)] }
	sector := func() int { return 14 + roll(8) }
	if roll(6) == 0 {
		sector = func() int { return 2 + roll(blocks) }
	}
	for at := 2; at < 14; at++ {
		level, of := 0, sector
		if at >= 7 {
			level, of = 1, low
		}
		if at >= 11 {
			level, of = 2, middle
		}
		var ptr [8]int
		for range 1 + roll(3-level) {
			ptr[roll(8)] = of()
		}
		setNode(img, at, level, ptr[:]...)
	}
	records := roll(6)
	for i := range records {
		r := api.Record{Id: 1 + i, Next: 23 + i, Root: root(), Size: 512}
		if i == records-1 && roll(9) > 0 {
			r.Next = 0
		}
		if i == 0 && roll(3) == 0 || roll(40) == 0 {
			r.Kind, r.Frames = api.Pending, 1+roll(9)
		}
		setRecord(img, 22+i, r)
	}
	for slot := range 2 {
		if roll(5) == 0 {
			continue
		}
		s := api.Super{Gen: 1 + roll(4), Root: root(), Size: 512 - roll(9)/8*roll(513)}
		if records > 0 {
			s.First = 22 + roll(records)
		}
		setSuper(img, slot, s)
	}
	if roll(10) == 0 {
		img[roll(len(img))] ^= 1
	}
	return img
}

// T4, P13.1: images whose blocks are thrown: refused as their neighbours refuse them, or held against the model.
func TestThrownImages(t *testing.T) {
	roll := dice()
	met := map[api.Errno]int{}
	for range 4000 {
		img := thrown(roll)
		e := holdBeside(t, "a thrown image", img)
		met[e]++
		if s, f := open.Open(img); f != e {
			t.Errorf("opened with %d, walked with %d", f, e)
		} else if e == api.OK {
			holdLeft(t, "a thrown image", img, modelLeft(img, s))
		}
	}
	for _, e := range []api.Errno{api.OK, api.ErrImage, api.ErrRecord, api.ErrTree} {
		if met[e] < 100 {
			t.Errorf("only %d images were thrown with %d", met[e], e)
		}
	}
}

// T4: images of bytes that are thrown are refused.
func TestThrownBytes(t *testing.T) {
	roll := dice()
	for range 300 {
		img := device(4 + roll(60))
		for at := range img {
			img[at] = byte(roll(256))
		}
		leftRefused(t, "thrown bytes", img, api.ErrImage)
		leftRefused(t, "thrown bytes, one less", img[1:], api.ErrLen)
		setSuper(img, 0, api.Super{Gen: 1, First: 2, Root: 3})
		leftRefused(t, "thrown bytes behind a superblock", img, api.ErrRecord)
		setSuper(img, 0, api.Super{Gen: 1, Root: 2, Size: 512})
		leftRefused(t, "thrown bytes behind a superblock", img, api.ErrTree)
		setSuper(img, 0, api.Super{Gen: 1, Size: 512})
		holdLeft(t, "thrown bytes that nothing leads to", img, len(img)/64-2)
	}
}

// spared answers l with room behind that is full of c.
func spared[T any](l []T, c T) []T {
	return append(slices.Clone(l), slices.Repeat([]T{c}, 5000)...)[:len(l)]
}

// stays tells whether l, which spared answered, and its room are as they were.
func stays[T comparable](l, was []T, c T) bool {
	return slices.Equal(l, was) && slices.Equal(l[len(l):len(l)+5000], slices.Repeat([]T{c}, 5000))
}

// scrawl writes all over l, its spare room too.
func scrawl[T any](l []T, with T) {
	l = l[:cap(l)]
	for i := range l {
		l[i] = with
	}
}

// R2, R3, R6: no list is changed, its spare room neither, and what lies behind its length is not read; each answer is memory of its own.
func TestListsStay(t *testing.T) {
	for _, l := range [][]int{nil, {1}, {1, 1, 0, 2, 0}, {0, 0, 0}, {1, 1, -1}, {1, 1, most}, make([]int, maxBlocks), make([]int, maxBlocks+1)} {
		for _, c := range []int{0, 1, -1, most + 1} {
			for _, at := range []int{-1, 0, 1, 2, len(l) - 1, len(l), len(l) + 1} {
				in := spared(l, c)
				free, e := Free(in)
				wantFree, wantE := Free(slices.Clip(l))
				more, f := More(in, at)
				wantMore, wantF := More(slices.Clip(l), at)
				less, g := Less(in, at)
				wantLess, wantG := Less(slices.Clip(l), at)
				taken, rest, h := Take(in, at)
				wantTaken, wantRest, wantH := Take(slices.Clip(l), at)
				if e != wantE || f != wantF || g != wantG || h != wantH {
					t.Errorf("%s at %d is refused otherwise with room behind it", show(l), at)
				}
				answers := [][]int{free, more, less, taken, rest}
				wants := [][]int{wantFree, wantMore, wantLess, wantTaken, wantRest}
				for i := range answers {
					if !slices.Equal(answers[i], wants[i]) {
						t.Errorf("%s at %d: answer %d is %s, want %s", show(l), at, i, show(answers[i]), show(wants[i]))
					}
				}
				holdApart(t, answers)
				if !stays(in, l, c) {
					t.Errorf("%s at %d is changed", show(l), at)
				}
			}
		}
	}
}

// holdApart writes all over each of the answers, and holds that all others stay as they were.
func holdApart(t *testing.T, answers [][]int) {
	t.Helper()
	for i := range answers {
		scrawl(answers[i], -100-i)
	}
	for i, l := range answers {
		for _, n := range l[:cap(l)] {
			if n != -100-i {
				t.Fatalf("answer %d shares memory with answer %d", i, -100-n)
			}
		}
	}
}

// R2: no answer shares memory with the list that was handed in, where that is written over behind the call.
func TestAnswersAreNew(t *testing.T) {
	counts, l := []int{1, 1, 0, 2, 0}, []int{2, 4, 6, 8}
	free, _ := Free(counts)
	more, _ := More(counts, 2)
	less, _ := Less(counts, 3)
	taken, rest, _ := Take(l, 2)
	none, all, _ := Take(l, 0)
	whole, nothing, _ := Take(l, 4)
	scrawl(counts, 9)
	scrawl(l, 9)
	for i, x := range []struct{ l, want []int }{
		{free, []int{2, 4}}, {more, []int{1, 1, 1, 2, 0}}, {less, []int{1, 1, 0, 1, 0}}, {taken, []int{2, 4}}, {rest, []int{6, 8}},
		{none, nil}, {all, []int{2, 4, 6, 8}}, {whole, []int{2, 4, 6, 8}}, {nothing, nil},
	} {
		if !slices.Equal(x.l, x.want) {
			t.Errorf("answer %d shares memory with what was handed in: %s", i, show(x.l))
		}
	}
	holdApart(t, [][]int{free, more, less, taken, rest, none, all, whole, nothing, counts, l})
}

// R3: nothing of a call is kept, of a refused one neither.
func TestNothingIsKept(t *testing.T) {
	for range 3 {
		holdFree(t, []int{1, 1, 0, 2, 0}, []int{2, 4})
		freeRefused(t, []int{0, 0, 0, -1})
		holdTake(t, []int{2, 4}, 1, []int{2}, []int{4}, api.OK)
		holdTake(t, []int{2, 4}, 3, nil, nil, api.ErrSpace)
		holdMore(t, []int{1, 1, 0}, 2)
		holdLess(t, []int{1, 1, 1}, 2)
		lessRefused(t, []int{1, 1, 0}, 2, api.ErrArg)
		holdLeft(t, "small", small(), smallLeft)
		leftRefused(t, "zeros", device(4), api.ErrImage)
	}
}

// R2, R6: Left changes no image, its spare room neither, and reads nothing of that.
func TestImagesStay(t *testing.T) {
	broken := small()
	broken[2*64] ^= 1
	short := small()[: 23*64 : 23*64]
	setSuper(short, 1, smallSuper())
	for _, img := range [][]byte{small(), broken, short, small()[:100], device(4), nil} {
		want, e := Left(slices.Clip(img))
		for _, c := range []byte{0, 0xFF} {
			b := spared(img, c)
			if n, f := Left(b); n != want || f != e || !stays(b, img, c) {
				t.Errorf("%d bytes with room behind: %d, %d, want %d, %d, or they are changed", len(img), n, f, want, e)
			}
		}
	}
	holdLeft(t, "a block less", short, smallLeft-1)
}
