package nums

import (
	"math"
	"math/big"
	"strings"
	"testing"

	"kevel/api"
)

const (
	word = api.MaxWord
	room = api.MaxRoom
	most = 1 << 42
)

// edges are numbers at, and beside, each limit that the chapter names, and ordinary ones.
func edges() []int {
	l := []int{math.MinInt, math.MinInt + 1, math.MaxInt - 1, math.MaxInt}
	for _, n := range []int{0, 3, 255, 4096, 1 << 12, room, word, most, 1 << 62} {
		for d := -2; d <= 2; d++ {
			l = append(l, n+d, -n+d)
		}
	}
	return append(l, 5, 7, 9, 10, 99, 100, 1000, 65537, 123456789, -123456789)
}

// nearest is told with great numbers, one comparison at a time, so that it shares nothing with what it is held against.
func nearest(n, most int) *big.Int {
	x := big.NewInt(int64(n))
	if x.Sign() < 0 {
		return big.NewInt(0)
	}
	if top := big.NewInt(int64(most)); x.Cmp(top) > 0 {
		return top
	}
	return x
}

func plus1(x *big.Int) *big.Int { return new(big.Int).Add(x, big.NewInt(1)) }

func same(got int, want *big.Int) bool { return big.NewInt(int64(got)).Cmp(want) == 0 }

// P1.1: Clamp.
func TestClampTellsTheNearestNumber(t *testing.T) {
	for _, c := range []struct{ n, top, want int }{
		{0, 0, 0}, {1, 0, 0}, {-1, 0, 0}, {2, 3, 2}, {3, 3, 3}, {4, 3, 3}, {-4, 3, 0}, {7, 255, 7},
		// A greatest one below 0 counts as 0.
		{5, -1, 0}, {-5, -1, 0}, {0, math.MinInt, 0}, {math.MaxInt, math.MinInt, 0}, {math.MinInt, math.MinInt, 0},
		// A greatest one above 2^40 counts as 2^40.
		{word, word, word}, {word - 1, word, word - 1}, {word + 1, word, word}, {word + 1, word + 1, word},
		{word + 7, word + 9, word}, {math.MaxInt, math.MaxInt, word}, {math.MaxInt, word - 1, word - 1},
		{math.MinInt, math.MaxInt, 0}, {math.MinInt, 3, 0}, {math.MaxInt, 3, 3}, {room + 1, room + 2, room + 1},
	} {
		if got := Clamp(c.n, c.top); got != c.want {
			t.Errorf("Clamp(%d, %d) = %d, want %d", c.n, c.top, got, c.want)
		}
	}
	for _, top := range edges() {
		for _, n := range edges() {
			want := nearest(n, int(nearest(top, word).Int64()))
			if got := Clamp(n, top); !same(got, want) {
				t.Errorf("Clamp(%d, %d) = %d, want %s", n, top, got, want)
			}
		}
	}
}

// P1.1: Wrap.
func TestWrapGoesRound(t *testing.T) {
	for _, c := range []struct{ n, top, want int }{
		{-1, 3, 3}, {0, 3, 0}, {3, 3, 3}, {4, 3, 0}, {5, 3, 1}, {-4, 3, 0}, {-5, 3, 3}, {11, 9, 1},
		{0, 0, 0}, {7, 0, 0}, {-7, 0, 0},
		{5, -1, 0}, {-5, math.MinInt, 0}, {math.MinInt, math.MinInt, 0},
		{-1, word, word}, {word, word, word}, {word + 1, word, 0}, {word + 2, word, 1},
		// A greatest one above 2^40 counts as 2^40.
		{word + 1, word + 1, 0}, {-1, word + 1, word}, {-1, math.MaxInt, word}, {word + 2, math.MaxInt, 1},
		// 2^63 is 2^23 times 2^40 + 1, less 2^23.
		{math.MinInt, word, 1 << 23}, {math.MaxInt, word, word - 1<<23},
		{math.MinInt, 3, 0}, {math.MaxInt, 3, 3}, {math.MinInt, 1, 0}, {math.MaxInt, 1, 1},
	} {
		if got := Wrap(c.n, c.top); got != c.want {
			t.Errorf("Wrap(%d, %d) = %d, want %d", c.n, c.top, got, c.want)
		}
	}
	for n := -12; n <= 12; n++ {
		if a, b := Wrap(n, 4), Wrap(n+5, 4); a != b || a < 0 || a > 4 || Wrap(n+1, 4) != (a+1)%5 {
			t.Errorf("Wrap(%d, 4) = %d, five further %d", n, a, b)
		}
	}
}

func TestWrapIsModuloAtAllEdges(t *testing.T) {
	for _, top := range edges() {
		for _, n := range edges() {
			// Mod is Euclid's: it answers nothing below 0.
			want := new(big.Int).Mod(big.NewInt(int64(n)), plus1(nearest(top, word)))
			if got := Wrap(n, top); !same(got, want) {
				t.Errorf("Wrap(%d, %d) = %d, want %s", n, top, got, want)
			}
		}
	}
}

// P1.2: Pack.
func TestPackPutsTwoIntoOne(t *testing.T) {
	for _, c := range []struct{ hi, lo, top, want int }{
		{2, 1, 3, 9}, {0, 0, 3, 0}, {0, 3, 3, 3}, {1, 0, 3, 4}, {3, 3, 3, 15}, {7, 0, 0, 7},
		// lo is cut as Clamp does, hi to 0 .. 2^20.
		{2, 4, 3, 11}, {2, -1, 3, 8}, {2, math.MaxInt, 3, 11}, {2, math.MinInt, 3, 8},
		{-1, 2, 3, 2}, {math.MinInt, 2, 3, 2}, {room, 0, 0, room}, {room + 1, 0, 0, room}, {math.MaxInt, 1, 1, 2*room + 1},
		// A greatest one below 0 counts as 0, one above 2^20 as 2^20.
		{5, 9, -1, 5}, {5, 9, math.MinInt, 5}, {1, 0, room, room + 1}, {1, 0, room + 1, room + 1}, {1, 0, word, room + 1},
		{1, room + 1, room + 1, 2*room + 1}, {1, word, math.MaxInt, 2*room + 1},
		{room, room, room, 1<<40 + 1<<21}, {math.MaxInt, math.MaxInt, math.MaxInt, 1<<40 + 1<<21},
		{math.MinInt, math.MinInt, math.MinInt, 0},
	} {
		if got := Pack(c.hi, c.lo, c.top); got != c.want {
			t.Errorf("Pack(%d, %d, %d) = %d, want %d", c.hi, c.lo, c.top, got, c.want)
		}
	}
}

func TestPackAtAllEdges(t *testing.T) {
	for _, top := range edges() {
		limit := nearest(top, room)
		for _, hi := range edges() {
			high := new(big.Int).Mul(nearest(hi, room), plus1(limit))
			for _, lo := range edges() {
				want := new(big.Int).Add(high, nearest(lo, int(limit.Int64())))
				if got := Pack(hi, lo, top); !same(got, want) {
					t.Fatalf("Pack(%d, %d, %d) = %d, want %s", hi, lo, top, got, want)
				}
			}
		}
	}
}

// P1.2: Unpack.
func TestUnpackTellsQuotientAndRest(t *testing.T) {
	for _, c := range []struct{ x, top, hi, lo int }{
		{9, 3, 2, 1}, {0, 3, 0, 0}, {3, 3, 0, 3}, {4, 3, 1, 0}, {15, 3, 3, 3}, {7, 0, 7, 0},
		{-1, 3, 0, 0}, {math.MinInt, 3, 0, 0}, {math.MinInt, math.MinInt, 0, 0},
		// The quotient is not cut at 2^20, x at 2^42.
		{room + 1, 0, room + 1, 0}, {word + 5, 0, word + 5, 0}, {most, 0, most, 0}, {most - 1, 0, most - 1, 0},
		{most + 1, 0, most, 0}, {math.MaxInt, 0, most, 0}, {math.MaxInt, 1, most / 2, 0}, {most + 1, 1, most / 2, 0},
		// A greatest one below 0 counts as 0, one above 2^20 as 2^20.
		{9, -1, 9, 0}, {9, math.MinInt, 9, 0}, {room + 1, room, 1, 0}, {room + 1, room + 1, 1, 0},
		{room, math.MaxInt, 0, room}, {word, word, room - 1, 1},
	} {
		if hi, lo := Unpack(c.x, c.top); hi != c.hi || lo != c.lo {
			t.Errorf("Unpack(%d, %d) = %d, %d, want %d, %d", c.x, c.top, hi, lo, c.hi, c.lo)
		}
	}
	for _, top := range edges() {
		for _, x := range edges() {
			wantHi, wantLo := new(big.Int).DivMod(nearest(x, most), plus1(nearest(top, room)), new(big.Int))
			if hi, lo := Unpack(x, top); !same(hi, wantHi) || !same(lo, wantLo) {
				t.Errorf("Unpack(%d, %d) = %d, %d, want %s, %s", x, top, hi, lo, wantHi, wantLo)
			}
		}
	}
}

// P1.3: Levels.
func TestLevelsTellsTheLeastPower(t *testing.T) {
	for _, c := range []struct{ n, want int }{
		{math.MinInt, 0}, {-5, 0}, {-1, 0}, {0, 0}, {1, 0}, {2, 1}, {3, 2}, {4, 2}, {5, 3}, {7, 3}, {8, 3}, {9, 4},
		{room, 20}, {room + 1, 21}, {word, 40}, {word + 1, 41}, {1 << 62, 62}, {1<<62 + 1, 63}, {math.MaxInt, 63},
	} {
		if got := Levels(c.n); got != c.want {
			t.Errorf("Levels(%d) = %d, want %d", c.n, got, c.want)
		}
	}
	for _, n := range edges() {
		k := 0
		for new(big.Int).Lsh(big.NewInt(1), uint(k)).Cmp(big.NewInt(int64(n))) < 0 {
			k++
		}
		if got := Levels(n); got != k {
			t.Errorf("Levels(%d) = %d, want %d", n, got, k)
		}
	}
}

// P1.3: Digits.
func TestDigitsTellsDecimal(t *testing.T) {
	for _, c := range []struct {
		n    int
		want string
	}{
		{0, "0"}, {7, "7"}, {-7, "-7"}, {10, "10"}, {-10, "-10"}, {100, "100"}, {1099511627776, "1099511627776"},
		{math.MinInt, "-9223372036854775808"}, {math.MaxInt, "9223372036854775807"},
	} {
		if got := Digits(c.n); got != c.want {
			t.Errorf("Digits(%d) = %q, want %q", c.n, got, c.want)
		}
	}
	for _, n := range edges() {
		got := Digits(n)
		if got != big.NewInt(int64(n)).String() || (n != 0 && strings.HasPrefix(strings.TrimPrefix(got, "-"), "0")) {
			t.Errorf("Digits(%d) = %q", n, got)
		}
	}
}

// P1.4: what was packed is unpacked.
func TestUnpackUndoesPack(t *testing.T) {
	for _, top := range edges() {
		limit := int(nearest(top, room).Int64())
		for _, hi := range edges() {
			for _, lo := range edges() {
				wantHi, wantLo := int(nearest(hi, room).Int64()), int(nearest(lo, limit).Int64())
				if h, l := Unpack(Pack(hi, lo, top), top); h != wantHi || l != wantLo {
					t.Fatalf("of %d, %d up to %d came %d, %d", hi, lo, top, h, l)
				}
			}
		}
	}
	for hi := range 9 {
		for lo := range 6 {
			if h, l := Unpack(Pack(hi, lo, 5), 5); h != hi || l != lo {
				t.Errorf("of %d, %d came %d, %d", hi, lo, h, l)
			}
		}
	}
}

// P1.4: the one with the greater hi is greater, whatever lo is.
func TestPackedStandByTheirHi(t *testing.T) {
	los := []int{math.MinInt, -1, 0, 1, 3, 255, room - 1, room, room + 1, word, math.MaxInt}
	for _, top := range edges() {
		for _, hi := range []int{0, 1, 2, 7, 255, room - 2, room - 1} {
			for _, a := range los {
				for _, b := range los {
					if x, y := Pack(hi, a, top), Pack(hi+1, b, top); x >= y {
						t.Fatalf("up to %d: %d, %d makes %d, and %d, %d makes %d", top, hi, a, x, hi+1, b, y)
					}
				}
			}
		}
	}
}
