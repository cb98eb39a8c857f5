package ids

import (
	"fmt"
	"math"
	"slices"
	"strings"
	"testing"

	"woodcut/api"
)

// someIds are the edges, each single bit, each bit's neighbours, and ids with all digits.
func someIds() []int {
	l := []int{1, 2, 255, api.MaxId, api.MaxId - 1, 0x0123456789abcdef, 0x3edcba9876543210}
	for i := range 62 {
		for d := -1; d <= 1; d++ {
			if n := 1<<i + d; n >= 1 {
				l = append(l, n)
			}
		}
	}
	state := uint64(1)
	for range 1000 {
		state = state*6364136223846793005 + 1442695040888963407
		l = append(l, int(state>>(2+state>>58%60))|1)
	}
	return l
}

func noIds() []int {
	return []int{0, -1, -2, -255, -api.MaxId, -api.MaxId - 1, api.MaxId + 1, api.MaxId + 2, math.MaxInt, math.MaxInt - 1, math.MinInt, math.MinInt + 1}
}

func parseRefuses(t *testing.T, s string) {
	t.Helper()
	if n, e := Parse(s); n != 0 || e != api.ErrArg {
		t.Errorf("Parse(%q): %d, %d, want ErrArg alone", s, n, e)
	}
}

// P4.1: Check.
func TestCheck(t *testing.T) {
	for _, id := range someIds() {
		if e := Check(id); e != api.OK {
			t.Errorf("Check(%d): %d", id, e)
		}
	}
	for _, id := range noIds() {
		if e := Check(id); e != api.ErrArg {
			t.Errorf("Check(%d): %d, want ErrArg", id, e)
		}
	}
}

// P4.1: Text and Parse, texts written out by hand.
func TestKnownTexts(t *testing.T) {
	for _, c := range []struct {
		id   int
		text string
	}{
		{255, "00000000000000ff"},
		{1, "0000000000000001"},
		{9, "0000000000000009"},
		{10, "000000000000000a"},
		{15, "000000000000000f"},
		{16, "0000000000000010"},
		{1 << 31, "0000000080000000"},
		{1 << 32, "0000000100000000"},
		{1 << 60, "1000000000000000"},
		{0x0123456789abcdef, "0123456789abcdef"},
		{0x3edcba9876543210, "3edcba9876543210"},
		{api.MaxId - 1, "3ffffffffffffffe"},
		{api.MaxId, "3fffffffffffffff"},
	} {
		if s, e := Text(c.id); s != c.text || e != api.OK {
			t.Errorf("Text(%d): %q, %d, want %q", c.id, s, e, c.text)
		}
		if n, e := Parse(c.text); n != c.id || e != api.OK {
			t.Errorf("Parse(%q): %d, %d, want %d", c.text, n, e, c.id)
		}
	}
}

// P4.1: Text of what is no id.
func TestTextRefuses(t *testing.T) {
	for _, id := range noIds() {
		if s, e := Text(id); s != "" || e != api.ErrArg {
			t.Errorf("Text(%d): %q, %d, want ErrArg alone", id, s, e)
		}
	}
}

// P4.1: Parse of texts that are too short or too long, some of an id's worth.
func TestParseRefusesOtherLengths(t *testing.T) {
	for n := range 40 {
		if n != 16 {
			parseRefuses(t, strings.Repeat("1", n))
			parseRefuses(t, strings.Repeat("0", max(n-1, 0))+"1"[:min(n, 1)])
		}
	}
	for _, s := range []string{"", "ff", "00000000000000f", "000000000000000ff", "00000000000000ff0", "00000000000000ff\n", "00000000000000ff\x00", "\x00", strings.Repeat("0", 1<<16) + "ff"} {
		parseRefuses(t, s)
	}
}

// P4.1: Parse of numbers of sixteen digits that are no ids.
func TestParseRefusesOtherNumbers(t *testing.T) {
	for _, s := range []string{
		"0000000000000000",
		"4000000000000000",
		"4000000000000001",
		"7fffffffffffffff",
		"8000000000000000",
		"8000000000000001",
		"c000000000000001",
		"ffffffffffffffff",
		"fffffffffffffffe",
	} {
		parseRefuses(t, s)
	}
}

// P4.1: Parse of every byte that is no small digit, at every place.
func TestParseRefusesOtherSigns(t *testing.T) {
	for c := range 256 {
		if strings.IndexByte("0123456789abcdef", byte(c)) >= 0 {
			continue
		}
		for i := range 16 {
			b := []byte("0123456789abcdef")
			b[i] = byte(c)
			parseRefuses(t, string(b))
		}
	}
	for _, s := range []string{
		"00000000000000FF",
		"00000000000000fF",
		"0123456789ABCDEF",
		" 0000000000000ff",
		"              ff",
		"0000000000000ff ",
		"+00000000000000f",
		"-00000000000000f",
		"0x000000000000ff",
		"0X000000000000ff",
		"0000_0000_0000_f",
		"000000000000.0ff",
		"００００0000",
		"0000000000000\uff11",
	} {
		parseRefuses(t, s)
	}
}

// P4.1: every small digit at every place, where an id may have it.
func TestParseTakesEveryDigit(t *testing.T) {
	for i := range 16 {
		for d := range 16 {
			b := []byte("0000000000000000")
			b[i] = fmt.Sprintf("%x", d)[0]
			if d == 0 || i == 0 && d > 3 {
				parseRefuses(t, string(b))
				continue
			}
			if n, e := Parse(string(b)); n != d<<(4*(15-i)) || e != api.OK {
				t.Errorf("Parse(%q): %d, %d", b, n, e)
			}
		}
	}
}

// P4.1: Has.
func TestHas(t *testing.T) {
	for _, c := range []struct {
		l    []int
		id   int
		want bool
	}{
		{nil, 0, false},
		{nil, 1, false},
		{[]int{}, 0, false},
		{[]int{}, 1, false},
		{[]int{7}, 7, true},
		{[]int{7}, 8, false},
		{[]int{7}, 6, false},
		{[]int{7}, 0, false},
		{[]int{7, 7}, 7, true},
		{[]int{7, 7}, 1, false},
		{[]int{7, 9, 3}, 7, true},
		{[]int{7, 9, 3}, 9, true},
		{[]int{7, 9, 3}, 3, true},
		{[]int{7, 9, 3}, 2, false},
		{[]int{9, 3, 7}, 8, false},
		{[]int{3, 7, 9}, 10, false},
		{[]int{3, 0, 9}, 0, true},
		{[]int{3, -1, 9}, -1, true},
		{[]int{3, -1, 9}, 1, false},
		{[]int{1, api.MaxId}, api.MaxId, true},
		{[]int{1, api.MaxId}, api.MaxId + 1, false},
		{[]int{1, api.MaxId + 1}, api.MaxId + 1, true},
		{[]int{math.MinInt, math.MaxInt}, math.MaxInt, true},
		{[]int{math.MinInt, math.MaxInt}, math.MinInt, true},
		{[]int{math.MaxInt}, -1, false},
	} {
		if has := Has(c.l, c.id); has != c.want {
			t.Errorf("Has(%v, %d): %t", c.l, c.id, has)
		}
	}
}

// P4.1, R2 and R6: Has reads no spare room and changes nothing.
func TestHasKeepsToTheLength(t *testing.T) {
	room := []int{5, 3, 5, 8}
	if Has(room[:2], 8) || Has(room[:0], 5) || !Has(room[:2], 3) {
		t.Error("spare room was read")
	}
	if !slices.Equal(room, []int{5, 3, 5, 8}) {
		t.Error("the list was changed:", room)
	}
}

// P4.2: what is written is read, and is what the library writes.
func TestWrittenIsRead(t *testing.T) {
	for _, id := range someIds() {
		s, e := Text(id)
		if s != fmt.Sprintf("%016x", id) || e != api.OK {
			t.Errorf("Text(%d): %q, %d", id, s, e)
		}
		if n, e := Parse(s); n != id || e != api.OK {
			t.Errorf("Parse(%q): %d, %d, want %d", s, n, e, id)
		}
	}
}
