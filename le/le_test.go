package le

import (
	"bytes"
	"encoding/binary"
	"math"
	"slices"
	"testing"

	"woodcut/api"
)

// most is the greatest number that fits each right size, written out by hand.
var most = map[int]int{1: 255, 2: 65535, 4: 4294967295, 8: 4611686018427387903}

func eightBytes(n int) []byte {
	return binary.LittleEndian.AppendUint64(nil, uint64(n))
}

func numbersFor(size int) []int {
	l := []int{0, 1, 127, 128, 254, 255, most[size] / 2, most[size] - 1, most[size]}
	for shift := range 62 {
		l = append(l, 1<<shift, 1<<shift-1, 0x0123456789abcdef>>shift)
	}
	return slices.DeleteFunc(l, func(n int) bool { return n > most[size] })
}

// P1.1: Put, ordinary inputs and edges.
func TestPutLaysTheLeastByteFirst(t *testing.T) {
	for _, c := range []struct {
		at, size, n int
		want        []byte
	}{
		{0, 4, 258, []byte{2, 1, 0, 0, 7, 7, 7, 7, 7}},
		{5, 4, 258, []byte{7, 7, 7, 7, 7, 2, 1, 0, 0}},
		{0, 1, 0, []byte{0, 7, 7, 7, 7, 7, 7, 7, 7}},
		{8, 1, 255, []byte{7, 7, 7, 7, 7, 7, 7, 7, 255}},
		{7, 2, 65534, []byte{7, 7, 7, 7, 7, 7, 7, 254, 255}},
		{1, 4, 0x01020304, []byte{7, 4, 3, 2, 1, 7, 7, 7, 7}},
		{0, 8, 0x0102030405060708, []byte{8, 7, 6, 5, 4, 3, 2, 1, 7}},
		{1, 8, api.MaxId, []byte{7, 255, 255, 255, 255, 255, 255, 255, 63}},
	} {
		b := bytes.Repeat([]byte{7}, 9)
		out, e := Put(b, c.at, c.size, c.n)
		if e != api.OK || !bytes.Equal(out, c.want) {
			t.Errorf("Put at %d, size %d, %d: %v, %d", c.at, c.size, c.n, out, e)
		}
	}
}

// P1.1: Put, wrong inputs; of several faults the argument's is told.
func TestPutRefuses(t *testing.T) {
	for _, c := range []struct {
		length, at, size, n int
		want                api.Errno
	}{
		{9, 0, 0, 0, api.ErrArg},
		{9, 0, 3, 0, api.ErrArg},
		{9, 0, 5, 0, api.ErrArg},
		{9, 0, 6, 0, api.ErrArg},
		{9, 0, 7, 0, api.ErrArg},
		{9, 0, 9, 0, api.ErrArg},
		{99, 0, 16, 0, api.ErrArg},
		{9, 0, -1, 0, api.ErrArg},
		{9, 0, -8, 0, api.ErrArg},
		{9, 0, math.MaxInt, 0, api.ErrArg},
		{9, 0, math.MinInt, 0, api.ErrArg},
		{9, 0, 1, 256, api.ErrArg},
		{9, 0, 2, 65536, api.ErrArg},
		{9, 0, 4, 1 << 32, api.ErrArg},
		{9, 0, 8, 1 << 62, api.ErrArg},
		{9, 0, 8, math.MaxInt, api.ErrArg},
		{9, 0, 1, -1, api.ErrArg},
		{9, 0, 8, -1, api.ErrArg},
		{9, 0, 8, math.MinInt, api.ErrArg},
		{9, -1, 1, 0, api.ErrRange},
		{9, 9, 1, 0, api.ErrRange},
		{9, 8, 2, 0, api.ErrRange},
		{9, 6, 4, 0, api.ErrRange},
		{9, 2, 8, 0, api.ErrRange},
		{0, 0, 1, 0, api.ErrRange},
		{7, 0, 8, 0, api.ErrRange},
		{7, -1, 8, 0, api.ErrRange},
		{9, math.MaxInt, 1, 0, api.ErrRange},
		{9, math.MaxInt - 7, 8, 0, api.ErrRange},
		{9, math.MinInt, 8, 0, api.ErrRange},
		{9, -1, 3, 0, api.ErrArg},
		{9, 9, 1, 256, api.ErrArg},
		{0, math.MaxInt, 8, -1, api.ErrArg},
		{0, -1, 0, 1 << 62, api.ErrArg},
	} {
		out, e := Put(bytes.Repeat([]byte{7}, c.length), c.at, c.size, c.n)
		if e != c.want || len(out) != 0 {
			t.Errorf("Put in %d at %d, size %d, %d: %v, %d, want %d", c.length, c.at, c.size, c.n, out, e, c.want)
		}
	}
}

// P1.1: Get, ordinary inputs and edges.
func TestGetReadsTheLeastByteFirst(t *testing.T) {
	for _, c := range []struct {
		b              []byte
		at, size, want int
	}{
		{[]byte{2, 1, 0, 0}, 0, 4, 258},
		{[]byte{9, 2, 1, 0, 0, 9}, 1, 4, 258},
		{[]byte{255}, 0, 1, 255},
		{[]byte{1, 128}, 0, 2, 32769},
		{[]byte{0, 255, 255}, 1, 2, 65535},
		{[]byte{0, 0, 0, 128}, 0, 4, 2147483648},
		{[]byte{255, 255, 255, 255}, 0, 4, 4294967295},
		{[]byte{8, 7, 6, 5, 4, 3, 2, 1}, 0, 8, 0x0102030405060708},
		{[]byte{255, 255, 255, 255, 255, 255, 255, 63}, 0, 8, api.MaxId},
		{[]byte{64, 0, 0, 0, 0, 0, 0, 0, 0}, 1, 8, 0},
	} {
		n, e := Get(c.b, c.at, c.size)
		if n != c.want || e != api.OK {
			t.Errorf("Get of %v at %d, size %d: %d, %d", c.b, c.at, c.size, n, e)
		}
	}
}

// P1.1: Get, wrong inputs: a size ahead of a place, a place ahead of a number.
func TestGetRefuses(t *testing.T) {
	above := []byte{0, 0, 0, 0, 0, 0, 0, 64}
	below0 := bytes.Repeat([]byte{255}, 8)
	for _, c := range []struct {
		b        []byte
		at, size int
		want     api.Errno
	}{
		{above, 0, 0, api.ErrArg},
		{above, 0, 3, api.ErrArg},
		{above, 0, 5, api.ErrArg},
		{above, 0, 6, api.ErrArg},
		{above, 0, 7, api.ErrArg},
		{above, 0, -1, api.ErrArg},
		{below0, 0, math.MinInt, api.ErrArg},
		{below0, 0, math.MaxInt, api.ErrArg},
		{nil, 0, 1, api.ErrRange},
		{above, -1, 1, api.ErrRange},
		{above, 8, 1, api.ErrRange},
		{above, 7, 2, api.ErrRange},
		{above, 5, 4, api.ErrRange},
		{below0, 1, 8, api.ErrRange},
		{below0, -1, 8, api.ErrRange},
		{below0[:7], 0, 8, api.ErrRange},
		{below0, math.MaxInt, 8, api.ErrRange},
		{below0, math.MaxInt - 7, 8, api.ErrRange},
		{below0, math.MinInt, 8, api.ErrRange},
		{above, 0, 8, api.ErrArg},
		{below0, 0, 8, api.ErrArg},
		{[]byte{0, 0, 0, 0, 0, 0, 0, 128}, 0, 8, api.ErrArg},
		{[]byte{255, 255, 255, 255, 255, 255, 255, 127}, 0, 8, api.ErrArg},
		{nil, -1, 3, api.ErrArg},
		{below0, 9, 0, api.ErrArg},
	} {
		n, e := Get(c.b, c.at, c.size)
		if n != 0 || e != c.want {
			t.Errorf("Get of %v at %d, size %d: %d, %d, want %d", c.b, c.at, c.size, n, e, c.want)
		}
	}
}

// P1.1: Zeros, at all places around each short list of bytes.
func TestZerosLooksAtItsPlacesAlone(t *testing.T) {
	places := []int{math.MinInt, math.MinInt + 1, -2, -1, 0, 1, 2, 3, 4, 5, 6, math.MaxInt - 1, math.MaxInt}
	for _, b := range [][]byte{nil, {}, {0}, {1}, {0, 0, 0, 0}, {128, 0, 0, 0}, {0, 1, 0, 0}, {0, 0, 0, 255}, {1, 0, 0, 2}} {
		for _, from := range places {
			for _, to := range places {
				want := true
				for i, c := range b {
					if i >= from && i < to && c != 0 {
						want = false
					}
				}
				if Zeros(b, from, to) != want {
					t.Errorf("Zeros of %v from %d to %d: not %v", b, from, to, want)
				}
			}
		}
	}
}

// P1.1: what lies behind a list's length is none of its places.
func TestSpareRoomIsNoPlace(t *testing.T) {
	b := []byte{0, 0, 0, 0, 1, 1, 1, 1}[:4]
	if !Zeros(b, 0, 8) {
		t.Error("Zeros looked behind the length")
	}
	if n, e := Get(b, 2, 4); n != 0 || e != api.ErrRange {
		t.Error("Get read behind the length", n, e)
	}
	if out, e := Put(b, 2, 4, 5); len(out) != 0 || e != api.ErrRange {
		t.Error("Put wrote behind the length", out, e)
	}
}

// P1.2: what is put is got, at every place that fits; all else stays, in the answer and in what was handed in.
func TestWhatIsPutIsGot(t *testing.T) {
	room := []byte{11, 12, 13, 14, 15, 16, 17, 18, 19, 20, 21, 22, 23, 24, 25, 26}
	for length := range 13 {
		b := slices.Clone(room)[:length]
		for size := range most {
			for at := 0; at+size <= length; at++ {
				for _, n := range numbersFor(size) {
					out, e := Put(b, at, size, n)
					want := slices.Concat(b[:at], eightBytes(n)[:size], b[at+size:])
					if e != api.OK || !bytes.Equal(out, want) {
						t.Fatalf("Put in %d at %d, size %d, %d: %v, %d", length, at, size, n, out, e)
					}
					got, e := Get(out, at, size)
					if e != api.OK || got != n {
						t.Fatalf("Get in %d at %d, size %d: %d, %d, want %d", length, at, size, got, e, n)
					}
				}
			}
		}
		if !bytes.Equal(b[:len(room)], room) {
			t.Fatal("what was handed in is changed, or its spare room", b[:len(room)])
		}
	}
}

// P1.2: a refused Put leaves what it was handed.
func TestRefusedPutChangesNothing(t *testing.T) {
	room := []byte{11, 12, 13, 14, 15, 16, 17, 18}
	b := slices.Clone(room)[:4]
	for _, c := range [][3]int{{0, 3, 1}, {0, 1, 256}, {1, 4, 1}, {-1, 1, 1}, {4, 1, 1}} {
		if _, e := Put(b, c[0], c[1], c[2]); e == api.OK {
			t.Error("taken", c)
		}
	}
	if !bytes.Equal(b[:len(room)], room) {
		t.Error("changed", b[:len(room)])
	}
}

// R2: an answer is new memory, its spare room too.
func TestPutAnswersNewMemory(t *testing.T) {
	room := []byte{11, 12, 13, 14, 15, 16, 17, 18}
	b := slices.Clone(room)[:4]
	out, _ := Put(b, 0, 1, 11)
	full := out[:cap(out)]
	for i := range full {
		full[i] = 99
	}
	if !bytes.Equal(b[:len(room)], room) {
		t.Error("the answer shares memory with what was handed in", b[:len(room)])
	}
}
