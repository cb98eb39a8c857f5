package gauge

import (
	"math"
	"math/big"
	"slices"
	"testing"
)

const tiny = math.SmallestNonzeroFloat64

var (
	nan    = math.NaN()
	inf    = math.Inf(1)
	lowest = math.Inf(-1)
	minus0 = math.Copysign(0, -1)
)

// alike holds a and b against each other by their bits, all that is no number being one.
func alike(a, b float64) bool {
	if a != a || b != b {
		return a != a && b != b
	}
	return math.Float64bits(a) == math.Float64bits(b)
}

// edges are numbers of each kind, in both signs, and what lies beside them.
func edges() []float64 {
	l := []float64{0, minus0, inf, lowest, nan, math.Float64frombits(0xFFF8000000000002)}
	for _, x := range []float64{tiny, 2 * tiny, 0x1p-1022, 1e-300, 0.001, 0.005, 1.0 / 3, 0.5, 1, 1.5, 3, 4, 100, 4096, 1 << 53, 1e300, math.MaxFloat64} {
		for _, y := range []float64{math.Nextafter(x, 0), x, math.Nextafter(x, inf)} {
			l = append(l, y, -y)
		}
	}
	return l
}

// rounded is the float64 next to r.
func rounded(r *big.Rat) float64 {
	x, _ := r.Float64()
	return x
}

func exact(x float64) *big.Rat {
	return new(big.Rat).SetFloat64(x)
}

// P3.1: Share, the chapter's example and other numbers without an edge.
func TestShareOfOrdinaryNumbers(t *testing.T) {
	for _, c := range []struct{ used, total, want float64 }{
		{1, 4, 0.25},
		{0, 4, 0},
		{3, 4, 0.75},
		{4, 4, 1},
		{5, 4, 1},
		{1, 3, 0x1.5555555555555p-2},
		{0.5, 2, 0.25},
		{510, 4096, 510.0 / 4096},
	} {
		if x := Share(c.used, c.total); !alike(x, c.want) {
			t.Errorf("Share(%v, %v): %v, want %v", c.used, c.total, x, c.want)
		}
	}
}

// P3.1: Share has nothing to tell of NaN, of less than nothing, of a part of nothing.
func TestShareOfNoNumber(t *testing.T) {
	for _, c := range []struct{ used, total float64 }{
		{nan, 4}, {nan, 0}, {nan, inf}, {nan, lowest},
		{1, nan}, {0, nan}, {inf, nan}, {-1, nan}, {nan, nan},
		{-1, 4}, {-tiny, 4}, {-4, 4}, {-math.MaxFloat64, 4}, {lowest, 4}, {-tiny, tiny}, {-1, inf}, {lowest, inf},
		{1, 0}, {0, 0}, {minus0, 0}, {inf, 0}, {-1, 0},
		{1, minus0}, {0, minus0}, {minus0, minus0}, {inf, minus0},
		{1, -tiny}, {1, -4}, {0, -4}, {1, lowest}, {inf, lowest}, {-5, -4}, {-3, -4}, {lowest, lowest},
	} {
		if x := Share(c.used, c.total); x == x {
			t.Errorf("Share(%v, %v): %v, want NaN", c.used, c.total, x)
		}
	}
}

// P3.1: Share is 1 from total on, and less just below it.
func TestShareAboutTotal(t *testing.T) {
	for _, total := range []float64{2 * tiny, 1e-300, 1, 1.5, 2, 3, 4, 4096, 1e300, math.MaxFloat64} {
		if x := Share(total, total); x != 1 {
			t.Errorf("all of %v: %v", total, x)
		}
		if x := Share(math.Nextafter(total, inf), total); x != 1 {
			t.Errorf("more than %v: %v", total, x)
		}
		below := math.Nextafter(total, 0)
		want := rounded(new(big.Rat).Quo(exact(below), exact(total)))
		if x := Share(below, total); x >= 1 || !alike(x, want) {
			t.Errorf("less than %v: %v, want %v", total, x, want)
		}
	}
	if x := Share(tiny, tiny); x != 1 {
		t.Errorf("all of the least number: %v", x)
	}
}

// P3.1: Share with an infinity on one side, or on both.
func TestShareOfInfinities(t *testing.T) {
	for _, c := range []struct{ used, total, want float64 }{
		{inf, inf, 1},
		{inf, 4, 1},
		{inf, tiny, 1},
		{inf, math.MaxFloat64, 1},
		{4, inf, 0},
		{tiny, inf, 0},
		{math.MaxFloat64, inf, 0},
		{0, inf, 0},
		{minus0, inf, 0},
	} {
		if x := Share(c.used, c.total); !alike(x, c.want) {
			t.Errorf("Share(%v, %v): %v, want %v", c.used, c.total, x, c.want)
		}
	}
}

// P3.1: Share of no more than nothing is a plain 0, and so is one too small to be told.
func TestShareIsAPlainZero(t *testing.T) {
	for _, c := range []struct{ used, total float64 }{
		{0, 4}, {minus0, 4}, {0, tiny}, {minus0, tiny}, {0, math.MaxFloat64}, {minus0, math.MaxFloat64},
		{tiny, math.MaxFloat64}, {tiny, 4}, {tiny, 2},
	} {
		if x := Share(c.used, c.total); !alike(x, 0) {
			t.Errorf("Share(%v, %v): %v, want 0", c.used, c.total, x)
		}
	}
}

// P3.1: Share of the least numbers above 0.
func TestShareOfLeastNumbers(t *testing.T) {
	for _, c := range []struct{ used, total, want float64 }{
		{tiny, 2 * tiny, 0.5},
		{tiny, 4 * tiny, 0.25},
		{tiny, 1, tiny},
		{tiny, 1.5, tiny},
		{3 * tiny, 2, 2 * tiny},
		{2 * tiny, tiny, 1},
		{1, tiny, 1},
		{tiny, 0x1p-1022, 0x1p-52},
		{1, math.MaxFloat64, 0x1p-1024},
	} {
		if x := Share(c.used, c.total); !alike(x, c.want) {
			t.Errorf("Share(%v, %v): %v, want %v", c.used, c.total, x, c.want)
		}
	}
}

// P3.1: Share of any two edges is what its text says, the division being that of unbounded numbers, rounded.
func TestShareOfEachPair(t *testing.T) {
	for _, used := range edges() {
		for _, total := range edges() {
			var want float64
			switch {
			case used != used, total != total, used < 0, !(total > 0):
				want = nan
			case used >= total:
				want = 1
			case total == inf:
				want = 0
			default:
				want = rounded(new(big.Rat).Quo(exact(used), exact(total)))
			}
			if x := Share(used, total); !alike(x, want) {
				t.Errorf("Share(%v, %v): %v, want %v", used, total, x, want)
			}
		}
	}
}

// P3.2: a share is NaN, or from 0 to 1 (never -0), and has a percent then.
func TestShareLiesFrom0To1(t *testing.T) {
	for _, used := range edges() {
		for _, total := range edges() {
			x := Share(used, total)
			if x == x && !(x >= 0 && x <= 1 && !math.Signbit(x)) {
				t.Errorf("Share(%v, %v): %v", used, total, x)
			}
			if n := Percent(x); (n == -1) != (x != x) || n < -1 || n > 100 {
				t.Errorf("Share(%v, %v): %v, in percent %d", used, total, x, n)
			}
		}
	}
}

// P3.1: Percent, the chapter's example, the ends of a share, and what is none.
func TestPercent(t *testing.T) {
	for _, c := range []struct {
		x    float64
		want int
	}{
		{0.25, 25}, {0.5, 50}, {1.0 / 3, 33}, {2.0 / 3, 67}, {0.01, 1}, {0.99, 99},
		{0, 0}, {minus0, 0}, {tiny, 0}, {1, 100}, {math.Nextafter(1, 0), 100},
		{nan, -1}, {math.Float64frombits(0xFFF8000000000002), -1},
		{-tiny, -1}, {-0.25, -1}, {-1, -1}, {-math.MaxFloat64, -1}, {lowest, -1},
		{math.Nextafter(1, 2), -1}, {1.001, -1}, {2, -1}, {math.MaxFloat64, -1}, {inf, -1},
	} {
		if n := Percent(c.x); n != c.want {
			t.Errorf("Percent(%v): %d, want %d", c.x, n, c.want)
		}
	}
}

// P3.1: Percent where a percent stands at a half, or is rounded to one.
func TestPercentAtAHalf(t *testing.T) {
	for _, c := range []struct {
		x    float64
		want int
	}{
		{0.005, 1}, {0.0049, 0}, {0.015, 2}, {0.025, 3}, {0.125, 13}, {0.375, 38}, {0.625, 63}, {0.875, 88},
		{0.994, 99}, {0.9949, 99}, {0.995, 100}, {0.9951, 100},
		// 100 times these is rounded to a number just below the half that their text names.
		{0.285, 28}, {0.145, 14}, {0.565, 56},
	} {
		if n := Percent(c.x); n != c.want {
			t.Errorf("Percent(%v): %d, want %d", c.x, n, c.want)
		}
	}
	// The greatest number below a half: the half that is put to it makes it whole, rounded.
	x := math.Nextafter(0.005, 0)
	if 100*x != math.Nextafter(0.5, 0) {
		t.Fatalf("100 times %v: %v", x, 100*x)
	}
	if n := Percent(x); n != 1 {
		t.Errorf("Percent(%v): %d, want 1", x, n)
	}
}

// percent works Percent out by unbounded numbers, each of the two steps rounded by itself.
func percent(x float64) int {
	hundred := rounded(new(big.Rat).Mul(exact(x), exact(100)))
	whole := exact(rounded(new(big.Rat).Add(exact(hundred), exact(0.5))))
	return int(new(big.Int).Quo(whole.Num(), whole.Denom()).Int64())
}

// P3.1: Percent about every half, each of both steps rounded.
func TestPercentAboutEachHalf(t *testing.T) {
	apart := 0
	for k := range 100 {
		x := (float64(k) + 0.5) / 100
		for range 40 {
			x = math.Nextafter(x, 0)
		}
		for range 81 {
			want := percent(x)
			if n := Percent(x); n != want {
				t.Errorf("Percent(%v): %d, want %d", x, n, want)
			}
			if int(math.FMA(100, x, 0.5)) != want {
				apart++
			}
			x = math.Nextafter(x, 1)
		}
	}
	if apart == 0 {
		t.Error("no number tells two rounded steps from one")
	}
}

// P3.1: Least of none, of NaN alone, and of numbers with and without NaN among them.
func TestLeast(t *testing.T) {
	for _, c := range []struct {
		l    []float64
		want float64
	}{
		{nil, nan},
		{[]float64{}, nan},
		{[]float64{nan}, nan},
		{[]float64{nan, -nan, math.Float64frombits(0xFFF8000000000002)}, nan},
		{[]float64{3}, 3},
		{[]float64{3, 1, 2}, 1},
		{[]float64{1, 2, 3}, 1},
		{[]float64{3, 2, 1}, 1},
		{[]float64{2, -3, 1}, -3},
		{[]float64{2, 2}, 2},
		{[]float64{nan, 3, nan, 2}, 2},
		{[]float64{3, 2, nan}, 2},
		{[]float64{2, nan, 3}, 2},
		{[]float64{nan, -1, 4}, -1},
		{[]float64{inf}, inf},
		{[]float64{lowest}, lowest},
		{[]float64{inf, inf}, inf},
		{[]float64{nan, inf, nan}, inf},
		{[]float64{lowest, nan}, lowest},
		{[]float64{inf, math.MaxFloat64}, math.MaxFloat64},
		{[]float64{inf, lowest, 5}, lowest},
		{[]float64{-math.MaxFloat64, lowest}, lowest},
	} {
		if x := Least(c.l); !alike(x, c.want) {
			t.Errorf("Least(%v): %v, want %v", c.l, x, c.want)
		}
	}
}

// P3.1: Least, of 0 and -0 the latter, whichever stands first.
func TestLeastOfBothZeros(t *testing.T) {
	for _, c := range []struct {
		l    []float64
		want float64
	}{
		{[]float64{0, minus0}, minus0},
		{[]float64{minus0, 0}, minus0},
		{[]float64{0, 0}, 0},
		{[]float64{minus0, minus0}, minus0},
		{[]float64{0, minus0, 0}, minus0},
		{[]float64{1, minus0, 0, 2}, minus0},
		{[]float64{nan, 0, nan, minus0, nan}, minus0},
		{[]float64{tiny, 0}, 0},
		{[]float64{tiny, minus0}, minus0},
		{[]float64{minus0, -tiny}, -tiny},
		{[]float64{-tiny, minus0, 0}, -tiny},
	} {
		if x := Least(c.l); !alike(x, c.want) {
			t.Errorf("Least(%v): %v, want %v", c.l, x, c.want)
		}
	}
}

// P3.1: Least of any two edges does not hang on their order.
func TestLeastOfEachPair(t *testing.T) {
	for _, a := range edges() {
		for _, b := range edges() {
			want := math.Min(a, b)
			if a != a {
				want = b
			} else if b != b {
				want = a
			}
			if x := Least([]float64{a, b}); !alike(x, want) {
				t.Errorf("Least of %v, %v: %v, want %v", a, b, x, want)
			}
		}
	}
}

// P3.1 and rules R2, R6: Least reads nothing behind its list's length, and changes nothing of it.
func TestLeastLeavesItsList(t *testing.T) {
	room := []float64{3, nan, minus0, 0, -7, lowest}
	before := slices.Clone(room)
	if x := Least(room[:4]); !alike(x, minus0) {
		t.Errorf("Least: %v", x)
	}
	if x := Least(room[:0]); x == x {
		t.Errorf("Least of none: %v", x)
	}
	if !slices.EqualFunc(room, before, alike) {
		t.Errorf("the list was changed: %v", room)
	}
}

// P3.1: Same, whether NaN, sign and number are alike.
func TestSame(t *testing.T) {
	l := []float64{minus0, 0, tiny, -tiny, 1, math.Nextafter(1, 2), -1, math.MaxFloat64, -math.MaxFloat64, inf, lowest, nan}
	for i, a := range l {
		for k, b := range l {
			if Same(a, b) != (i == k) {
				t.Errorf("Same(%v, %v): %v", a, b, i != k)
			}
		}
	}
}

// P3.1: Same, all that is no number is the same, whatever its bits.
func TestSameOfNoNumbers(t *testing.T) {
	l := []float64{nan, -nan, math.Copysign(nan, -1), math.Float64frombits(0x7FF8000000000001), math.Float64frombits(0xFFF8000000000002), math.Float64frombits(0x7FF0000000000001), inf - inf}
	for _, a := range l {
		for _, b := range l {
			if !Same(a, b) {
				t.Errorf("Same(%x, %x): false", math.Float64bits(a), math.Float64bits(b))
			}
		}
		for _, b := range []float64{0, minus0, 1, inf, lowest} {
			if Same(a, b) || Same(b, a) {
				t.Errorf("Same of %x and %v: true", math.Float64bits(a), b)
			}
		}
	}
}

// P3.1: Same of any two edges.
func TestSameOfEachPair(t *testing.T) {
	for _, a := range edges() {
		for _, b := range edges() {
			if Same(a, b) != alike(a, b) {
				t.Errorf("Same(%v, %v): %v", a, b, Same(a, b))
			}
		}
	}
}
