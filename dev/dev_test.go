package dev

import (
	"bytes"
	"fmt"
	"math"
	"slices"
	"testing"

	"woodcut/api"
)

// device answers blocks blocks, no two bytes side by side the same, no two blocks neither.
func device(blocks int) []byte {
	img := make([]byte, blocks*api.Block)
	for i := range img {
		img[i] = byte(i%251 + i/api.Block)
	}
	return img
}

// filled answers a block whose bytes tell their places.
func filled(b byte) []byte {
	data := make([]byte, api.Block)
	for i := range data {
		data[i] = b + byte(i)
	}
	return data
}

func write1(at int, b byte) api.Io {
	return api.Io{Kind: api.IoWrite, At: at, Data: filled(b)}
}

func flush() api.Io {
	return api.Io{Kind: api.IoFlush}
}

// with answers img with the block of filled(b) at at.
func with(img []byte, at int, b byte) []byte {
	return slices.Concat(img[:at*api.Block], filled(b), img[(at+1)*api.Block:])
}

// allRefuse holds each call that takes steps against what Steps is to tell.
func allRefuse(t *testing.T, name string, img []byte, l []api.Io, want api.Errno) {
	t.Helper()
	if e := Steps(img, l); e != want {
		t.Errorf("%s: Steps: %d, want %d", name, e, want)
	}
	if out, e := Apply(img, l); len(out) != 0 || e != want {
		t.Errorf("%s: Apply: %d bytes, %d, want %d alone", name, len(out), e, want)
	}
	// A cut that may not be comes behind what Steps tells.
	for _, cut := range []int{0, len(l), -1, len(l) + 1} {
		if out, e := Crash(img, l, cut, nil); len(out) != 0 || e != want {
			t.Errorf("%s: Crash at %d: %d bytes, %d, want %d alone", name, cut, len(out), e, want)
		}
	}
}

// allTake holds each call that takes steps against steps that are right, where nothing is kept of them.
func allTake(t *testing.T, name string, img []byte, l []api.Io, want []byte) {
	t.Helper()
	if e := Steps(img, l); e != api.OK {
		t.Errorf("%s: Steps: %d", name, e)
	}
	if out, e := Apply(img, l); !bytes.Equal(out, want) || e != api.OK {
		t.Errorf("%s: Apply: other bytes, or %d", name, e)
	}
	if out, e := Crash(img, l, 0, []bool{true}); !bytes.Equal(out, img) || e != api.OK {
		t.Errorf("%s: Crash at 0: other bytes, or %d", name, e)
	}
}

func wrongLengths() []int {
	const least, most = api.MinBlocks * api.Block, api.MaxBlocks * api.Block
	return []int{
		0, 1, api.Block - 1, api.Block, api.Block + 1, 2 * api.Block,
		least - api.Block, least - 1, least + 1, least + api.Block - 1, least + api.Block + 1, 7*api.Block - 1, 7*api.Block + 32,
		most - 1, most + 1, most - api.Block + 1, most + api.Block - 1, most + api.Block, 2 * most,
	}
}

// P5.1: Check of right devices.
func TestCheckCountsBlocks(t *testing.T) {
	for _, n := range []int{api.MinBlocks, api.MinBlocks + 1, 7, 8, 63, 64, 65, 255, 256, 257, 4095, api.MaxBlocks} {
		if blocks, e := Check(make([]byte, n*api.Block)); blocks != n || e != api.OK {
			t.Errorf("Check of %d blocks: %d, %d", n, blocks, e)
		}
	}
}

// P5.1: Check of all else, and each call that begins with it.
func TestCheckRefuses(t *testing.T) {
	for _, n := range wrongLengths() {
		if blocks, e := Check(make([]byte, n)); blocks != 0 || e != api.ErrLen {
			t.Errorf("Check of %d bytes: %d, %d, want ErrLen alone", n, blocks, e)
		}
	}
	if blocks, e := Check(nil); blocks != 0 || e != api.ErrLen {
		t.Errorf("Check(nil): %d, %d, want ErrLen alone", blocks, e)
	}
	room := make([]byte, api.MinBlocks*api.Block)
	if blocks, e := Check(room[:api.MinBlocks*api.Block-1]); blocks != 0 || e != api.ErrLen {
		t.Errorf("Check read the spare room: %d, %d", blocks, e)
	}
}

// P5.1: Read of each block.
func TestRead(t *testing.T) {
	for _, blocks := range []int{api.MinBlocks, 5, 300, api.MaxBlocks} {
		img := device(blocks)
		for at := range blocks {
			b, e := Read(img, at)
			if !bytes.Equal(b, img[at*api.Block:(at+1)*api.Block]) || e != api.OK {
				t.Fatalf("Read of block %d of %d: %v, %d", at, blocks, b, e)
			}
		}
		for _, at := range []int{-1, -blocks, blocks, blocks + 1, blocks * api.Block, api.MaxBlocks, math.MaxInt, math.MinInt, math.MaxInt/api.Block + 1, math.MinInt / api.Block, 1 << 58, 1 << 32} {
			if b, e := Read(img, at); len(b) != 0 || e != api.ErrRange {
				t.Errorf("Read at %d of %d blocks: %v, %d, want ErrRange alone", at, blocks, b, e)
			}
		}
	}
}

// P5.1: Read of what is no device, at a place that may be one and at places that are none.
func TestReadRefusesOtherDevices(t *testing.T) {
	for _, n := range wrongLengths() {
		for _, at := range []int{0, 1, -1, 4, 4096, math.MaxInt, math.MinInt} {
			if b, e := Read(make([]byte, n), at); len(b) != 0 || e != api.ErrLen {
				t.Errorf("Read at %d of %d bytes: %v, %d, want ErrLen alone", at, n, b, e)
			}
		}
	}
	if b, e := Read(nil, 9); len(b) != 0 || e != api.ErrLen {
		t.Errorf("Read of nil: %v, %d, want ErrLen alone", b, e)
	}
}

// P5.1: steps that are right.
func TestRightSteps(t *testing.T) {
	for _, blocks := range []int{api.MinBlocks, 9, api.MaxBlocks} {
		img := device(blocks)
		last := blocks - 1
		for name, c := range map[string]struct {
			l    []api.Io
			want []byte
		}{
			"nil":                 {nil, img},
			"none":                {[]api.Io{}, img},
			"the first block":     {[]api.Io{write1(0, 9)}, with(img, 0, 9)},
			"the last block":      {[]api.Io{write1(last, 9)}, with(img, last, 9)},
			"a block inside":      {[]api.Io{write1(2, 9)}, with(img, 2, 9)},
			"a flush":             {[]api.Io{flush()}, img},
			"an empty flush":      {[]api.Io{{Kind: api.IoFlush, Data: []byte{}}}, img},
			"two flushes":         {[]api.Io{flush(), flush()}, img},
			"zeros":               {[]api.Io{{Kind: api.IoWrite, At: 1, Data: make([]byte, api.Block)}}, slices.Concat(img[:api.Block], make([]byte, api.Block), img[2*api.Block:])},
			"twice the same":      {[]api.Io{write1(1, 9), write1(1, 8)}, with(img, 1, 8)},
			"twice, a flush amid": {[]api.Io{write1(1, 9), flush(), write1(1, 8)}, with(img, 1, 8)},
			"twice, another amid": {[]api.Io{write1(1, 9), write1(last, 7), write1(1, 8)}, with(with(img, 1, 8), last, 7)},
			"both ends":           {[]api.Io{flush(), write1(last, 3), write1(0, 4), flush()}, with(with(img, 0, 4), last, 3)},
		} {
			allTake(t, name, img, c.l, c.want)
		}
	}
}

func wrongSteps(blocks int) map[string]api.Io {
	return map[string]api.Io{
		"no kind":                   {},
		"no kind, else a write":     {At: 1, Data: filled(1)},
		"a third kind":              {Kind: api.IoFlush + 1},
		"a third kind, a write":     {Kind: api.IoFlush + 1, At: 1, Data: filled(1)},
		"a kind below 0":            {Kind: -1, Data: filled(1)},
		"the greatest kind":         {Kind: math.MaxInt, Data: filled(1)},
		"the least kind":            {Kind: math.MinInt},
		"a write below":             write1(-1, 1),
		"a write beyond":            write1(blocks, 1),
		"a write of a byte's place": write1(blocks*api.Block, 1),
		"the greatest place":        write1(math.MaxInt, 1),
		"the least place":           write1(math.MinInt, 1),
		"a place that wraps to 0":   write1(1<<58, 1),
		"Data nil":                  {Kind: api.IoWrite, At: 1},
		"Data empty":                {Kind: api.IoWrite, At: 1, Data: []byte{}},
		"Data of a byte":            {Kind: api.IoWrite, Data: make([]byte, 1)},
		"Data a byte short":         {Kind: api.IoWrite, At: 1, Data: filled(1)[:api.Block-1]},
		"Data a byte long":          {Kind: api.IoWrite, At: 1, Data: make([]byte, api.Block+1)},
		"Data of two blocks":        {Kind: api.IoWrite, At: 0, Data: make([]byte, 2*api.Block)},
		"a flush at 1":              {Kind: api.IoFlush, At: 1},
		"a flush at -1":             {Kind: api.IoFlush, At: -1},
		"a flush of a byte":         {Kind: api.IoFlush, Data: make([]byte, 1)},
		"a flush of a block":        {Kind: api.IoFlush, Data: filled(1)},
	}
}

// P5.1 and P5.2: a step that is not right, alone, ahead of right ones, behind them.
func TestWrongSteps(t *testing.T) {
	for _, blocks := range []int{api.MinBlocks, 9} {
		img := device(blocks)
		for name, step := range wrongSteps(blocks) {
			allRefuse(t, name, img, []api.Io{step}, api.ErrArg)
			allRefuse(t, name+", ahead", img, []api.Io{step, write1(1, 2), flush()}, api.ErrArg)
			allRefuse(t, name+", amid", img, []api.Io{write1(1, 2), step, flush()}, api.ErrArg)
			allRefuse(t, name+", behind", img, []api.Io{write1(1, 2), flush(), step}, api.ErrArg)
		}
	}
}

// P5.1: what is a block of one device need not be one of another.
func TestStepsAreOfTheirDevice(t *testing.T) {
	l := []api.Io{write1(4, 1)}
	allRefuse(t, "of four blocks", device(4), l, api.ErrArg)
	allTake(t, "of five blocks", device(5), l, with(device(5), 4, 1))
}

// P5.1 and P5.2: MaxIo steps, one more, and which error comes first.
func TestManySteps(t *testing.T) {
	img := device(api.MinBlocks)
	many := make([]api.Io, api.MaxIo+1)
	for i := range many {
		many[i] = flush()
	}
	many[3] = write1(2, 5)
	many[api.MaxIo-1] = write1(3, 6)
	want := with(with(img, 2, 5), 3, 6)
	allTake(t, "MaxIo", img, many[:api.MaxIo], want)
	if out, e := Crash(img, many[:api.MaxIo], api.MaxIo, []bool{true}); !bytes.Equal(out, want) || e != api.OK {
		t.Errorf("Crash behind MaxIo steps: other bytes, or %d", e)
	}
	allRefuse(t, "one more", img, many, api.ErrLen)
	many[0] = api.Io{}
	allRefuse(t, "one more, one wrong", img, many, api.ErrLen)
	allRefuse(t, "MaxIo, one wrong", img, many[:api.MaxIo], api.ErrArg)
	many[0], many[api.MaxIo-1] = flush(), api.Io{}
	allRefuse(t, "MaxIo, the last wrong", img, many[:api.MaxIo], api.ErrArg)
}

// P5.1 and P5.2: what is no device comes ahead of what is no step.
func TestStepsRefuseOtherDevices(t *testing.T) {
	for _, n := range wrongLengths() {
		name := fmt.Sprint(n, " bytes")
		allRefuse(t, name, make([]byte, n), nil, api.ErrLen)
		allRefuse(t, name+", a write", make([]byte, n), []api.Io{write1(0, 1)}, api.ErrLen)
		allRefuse(t, name+", a wrong step", make([]byte, n), []api.Io{{}}, api.ErrLen)
	}
	allRefuse(t, "nil", nil, []api.Io{{}}, api.ErrLen)
}

// P5.2: Crash, each edge that the chapter names.
func TestCrash(t *testing.T) {
	img := device(api.MinBlocks)
	l := []api.Io{flush(), write1(0, 1), write1(1, 2), flush(), flush(), write1(1, 3), write1(2, 4), write1(2, 5), flush(), write1(3, 6)}
	first := with(with(img, 0, 1), 1, 2)
	second := with(with(first, 1, 3), 2, 5)
	for _, c := range []struct {
		cut  int
		keep []bool
		want []byte
	}{
		{0, nil, img},
		{0, []bool{true, true, true}, img},
		{1, []bool{true, true}, img},
		{2, nil, img},
		{2, []bool{false, true}, img},
		{2, []bool{true}, with(img, 0, 1)},
		{2, []bool{true, true, true, true}, with(img, 0, 1)},
		{3, []bool{true}, with(img, 0, 1)},
		{3, []bool{false, true}, with(img, 1, 2)},
		{3, []bool{true, true}, first},
		{4, nil, first},
		{4, []bool{false, false}, first},
		{5, nil, first},
		{6, nil, first},
		{6, []bool{false, false, true}, first},
		{6, []bool{true}, with(first, 1, 3)},
		{7, []bool{false, true}, with(first, 2, 4)},
		{8, []bool{false, true, false}, with(first, 2, 4)},
		{8, []bool{false, false, true}, with(first, 2, 5)},
		{8, []bool{false, true, true}, with(first, 2, 5)},
		{8, []bool{true, false, true}, second},
		{9, []bool{}, second},
		{9, []bool{false, false, false, false}, second},
		{10, nil, second},
		{10, []bool{false, true, true, true}, second},
		{10, []bool{true}, with(second, 3, 6)},
		{10, []bool{true, false, false, false, false, false}, with(second, 3, 6)},
	} {
		if out, e := Crash(img, l, c.cut, c.keep); !bytes.Equal(out, c.want) || e != api.OK {
			t.Errorf("Crash at %d, %v kept: other bytes, or %d", c.cut, c.keep, e)
		}
	}
}

// P5.2: the chapter's example.
func TestNothingKept(t *testing.T) {
	img := device(api.MinBlocks)
	if out, e := Crash(img, []api.Io{write1(2, 9)}, 1, nil); !bytes.Equal(out, img) || e != api.OK {
		t.Errorf("a write, no flush, nothing kept: other bytes, or %d", e)
	}
}

// P5.2: a flush behind the cut makes nothing good.
func TestFlushBehindTheCut(t *testing.T) {
	img := device(api.MinBlocks)
	l := []api.Io{write1(0, 1), flush()}
	if out, e := Crash(img, l, 1, nil); !bytes.Equal(out, img) || e != api.OK {
		t.Errorf("other bytes, or %d", e)
	}
}

// P5.2: cuts that may not be.
func TestCrashRefusesOtherCuts(t *testing.T) {
	img := device(api.MinBlocks)
	l := []api.Io{write1(0, 1), flush(), write1(1, 2), write1(2, 3)}
	for n := range len(l) + 1 {
		for _, cut := range []int{-1, -n - 1, n + 1, n + 2, len(l) + 1, math.MaxInt, math.MinInt} {
			// The room behind l's length has right steps: they do not make a cut right.
			if out, e := Crash(img, l[:n], cut, []bool{true}); len(out) != 0 || e != api.ErrArg {
				t.Errorf("Crash of %d steps at %d: %d bytes, %d, want ErrArg alone", n, cut, len(out), e)
			}
		}
	}
	if out, e := Crash(img, nil, 1, nil); len(out) != 0 || e != api.ErrArg {
		t.Errorf("Crash of no step at 1: %d bytes, %d, want ErrArg alone", len(out), e)
	}
	if out, e := Crash(img, nil, 0, nil); !bytes.Equal(out, img) || e != api.OK {
		t.Errorf("Crash of no step at 0: other bytes, or %d", e)
	}
}

// everyList calls do with all lists of at most most steps: two blocks that are written, each time with other bytes, and flushes.
func everyList(most int, do func(l []api.Io)) {
	var grow func(l []api.Io)
	grow = func(l []api.Io) {
		do(l)
		if len(l) == most {
			return
		}
		b := byte(100 + len(l))
		for _, step := range []api.Io{write1(1, b), write1(3, b), flush()} {
			grow(append(slices.Clone(l), step))
		}
	}
	grow(nil)
}

// everyKeep answers all lists of at most most bools.
func everyKeep(most int) [][]bool {
	all := [][]bool{nil}
	for i := 0; len(all[i]) < most; i++ {
		all = append(all, append(slices.Clone(all[i]), false), append(slices.Clone(all[i]), true))
	}
	return all
}

// left is Crash by its words, a step at a time.
func left(img []byte, l []api.Io, cut int, keep []bool) []byte {
	others := 0
	for i, step := range l[:cut] {
		if step.Kind != api.IoWrite {
			continue
		}
		stands := slices.ContainsFunc(l[i+1:cut], func(o api.Io) bool { return o.Kind == api.IoFlush })
		if !stands {
			stands = others < len(keep) && keep[others]
			others++
		}
		if stands {
			img = slices.Concat(img[:step.At*api.Block], step.Data, img[(step.At+1)*api.Block:])
		}
	}
	return img
}

// P5.2: all short lists, cuts and keeps.
func TestEveryCrash(t *testing.T) {
	img := device(api.MinBlocks)
	keeps := everyKeep(4)
	everyList(4, func(l []api.Io) {
		for cut := range len(l) + 1 {
			for _, keep := range keeps {
				if out, e := Crash(img, l, cut, keep); !bytes.Equal(out, left(img, l, cut, keep)) || e != api.OK {
					t.Fatalf("Crash of %v at %d, %v kept: other bytes, or %d", l, cut, keep, e)
				}
			}
		}
	})
}

// P5.3: cut behind a flush, whatever is kept, all ahead of it stands; and what comes later writes to that.
func TestBehindAFlush(t *testing.T) {
	img := device(api.MinBlocks)
	keeps := everyKeep(3)
	everyList(4, func(l []api.Io) {
		for _, at := range Flushes(l) {
			safe, e := Apply(img, l[:at+1])
			if e != api.OK {
				t.Fatal(e)
			}
			for _, keep := range keeps {
				if out, e := Crash(img, l, at+1, keep); !bytes.Equal(out, safe) || e != api.OK {
					t.Fatalf("Crash of %v at %d, %v kept: not all that was flushed, or %d", l, at+1, keep, e)
				}
				for cut := at + 1; cut <= len(l); cut++ {
					out, e := Crash(img, l, cut, keep)
					again, f := Crash(safe, l[at+1:], cut-at-1, keep)
					if !bytes.Equal(out, again) || e != api.OK || f != api.OK {
						t.Fatalf("Crash of %v at %d, %v kept: not what the steps behind %d leave", l, cut, keep, at)
					}
				}
			}
		}
	})
}

// P5.2: Flushes, of steps that are right and of others.
func TestFlushes(t *testing.T) {
	wrong := api.Io{Kind: api.IoFlush, At: 9, Data: []byte{1}}
	for _, c := range []struct {
		l    []api.Io
		want []int
	}{
		{nil, nil},
		{[]api.Io{}, nil},
		{[]api.Io{write1(0, 1)}, nil},
		{[]api.Io{{}, {Kind: 3}, {Kind: -1}, {Kind: math.MaxInt}, {Kind: math.MinInt}}, nil},
		{[]api.Io{flush()}, []int{0}},
		{[]api.Io{flush(), flush()}, []int{0, 1}},
		{[]api.Io{write1(0, 1), flush()}, []int{1}},
		{[]api.Io{flush(), write1(0, 1)}, []int{0}},
		{[]api.Io{flush(), write1(0, 1), write1(0, 1), flush(), flush()}, []int{0, 3, 4}},
		{[]api.Io{wrong, {}, write1(-1, 1), wrong, flush(), {Kind: api.IoWrite}}, []int{0, 3, 4}},
		{[]api.Io{{Kind: api.IoFlush, At: -1}}, []int{0}},
		{[]api.Io{{Kind: api.IoFlush, Data: filled(1)}}, []int{0}},
	} {
		if f := Flushes(c.l); !slices.Equal(f, c.want) {
			t.Errorf("Flushes(%v): %v, want %v", c.l, f, c.want)
		}
	}
	room := []api.Io{flush(), write1(0, 1), flush()}
	if f := Flushes(room[:2]); !slices.Equal(f, []int{0}) {
		t.Errorf("Flushes read the spare room: %v", f)
	}
	many := make([]api.Io, api.MaxIo+2)
	many[api.MaxIo+1] = flush()
	if f := Flushes(many); !slices.Equal(f, []int{api.MaxIo + 1}) {
		t.Errorf("Flushes of more than MaxIo: %v", f)
	}
}

// spill overwrites b and its spare room.
func spill(b []byte) {
	b = b[:cap(b)]
	for i := range b {
		b[i] = 0xEE
	}
}

// P5.1, P5.2 and R2: nothing that is handed in is changed, its spare room neither, and no answer shares memory with it.
func TestNothingIsChangedOrShared(t *testing.T) {
	room := device(2 * api.MinBlocks)
	img := room[:api.MinBlocks*api.Block]
	before := slices.Clone(room)
	data := slices.Concat(filled(1), filled(2))
	steps := []api.Io{{Kind: api.IoWrite, At: 3, Data: data[:api.Block]}, flush(), {Kind: api.IoWrite, At: 0, Data: data[:api.Block]}, write1(1, 7)}
	l, keep := steps[:3], []bool{true, true, false}
	dataBefore := slices.Clone(data)
	answers := map[string]func() ([]byte, api.Errno){
		"Read":           func() ([]byte, api.Errno) { return Read(img, 3) },
		"Apply":          func() ([]byte, api.Errno) { return Apply(img, l) },
		"Apply of none":  func() ([]byte, api.Errno) { return Apply(img, nil) },
		"Crash":          func() ([]byte, api.Errno) { return Crash(img, l, 3, keep[:1]) },
		"Crash at 0":     func() ([]byte, api.Errno) { return Crash(img, l, 0, keep[:1]) },
		"Crash, no step": func() ([]byte, api.Errno) { return Crash(img, nil, 0, nil) },
	}
	for name, answer := range answers {
		out, e := answer()
		if e != api.OK {
			t.Errorf("%s: %d", name, e)
		}
		want := slices.Clone(out)
		spill(out)
		if again, _ := answer(); !bytes.Equal(again, want) {
			t.Errorf("%s: its answer hangs on the one before", name)
		}
	}
	for i := range Flushes(l) {
		Flushes(l)[i] = 9
	}
	if !bytes.Equal(room, before) || !bytes.Equal(data, dataBefore) || !slices.Equal(keep, []bool{true, true, false}) {
		t.Error("bytes that were handed in are changed")
	}
	same := func(s api.Io, kind, at int, data []byte) bool {
		return s.Kind == kind && s.At == at && bytes.Equal(s.Data, data)
	}
	if !same(steps[0], api.IoWrite, 3, filled(1)) || !same(steps[1], api.IoFlush, 0, nil) || !same(steps[2], api.IoWrite, 0, filled(1)) || !same(steps[3], api.IoWrite, 1, filled(7)) {
		t.Error("steps that were handed in are changed")
	}
}

// P5.2 and R6: keep's spare room is not read.
func TestKeepEndsAtItsLength(t *testing.T) {
	img := device(api.MinBlocks)
	keep := []bool{false, true}
	l := []api.Io{write1(0, 1), write1(1, 2)}
	if out, e := Crash(img, l, 2, keep[:1]); !bytes.Equal(out, img) || e != api.OK {
		t.Errorf("other bytes, or %d", e)
	}
}
