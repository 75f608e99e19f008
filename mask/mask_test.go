package mask

import (
	"math"
	"slices"
	"strconv"
	"strings"
	"testing"
)

const all = math.MaxUint64

// none are numbers that are no threads, of which some are threads modulo 64, or with fewer bits.
var none = []int{-1, -2, -63, -64, -65, -128, math.MinInt, math.MinInt + 1, 64, 65, 67, 127, 128, 1 << 8, 1 << 16, 1 << 32, 1<<32 + 3, 1 << 62, math.MaxInt - 1, math.MaxInt}

// samples are sets at the edges, sets of one, all but one, and mixed ones.
func samples() []uint64 {
	l := []uint64{0, 5, 9, 0xff, 0x100, 0x8000000000000001, 0xaaaaaaaaaaaaaaaa, 0x5555555555555555, 0x123456789abcdef0, all}
	x := uint64(1)
	for t := range 64 {
		x = x*6364136223846793005 + 1442695040888963407
		l = append(l, uint64(1)<<t, all&^(uint64(1)<<t), uint64(1)<<t-1, x)
	}
	return l
}

// members is told by division alone, so that it shares nothing with what it is held against.
func members(s uint64) []int {
	var l []int
	for t := 0; s > 0; t++ {
		if s%2 == 1 {
			l = append(l, t)
		}
		s /= 2
	}
	return l
}

func gone(s uint64) []int {
	var l []int
	for t := range Each(s) {
		l = append(l, t)
	}
	return l
}

// P2.1: Of.
func TestOfTakesThreads(t *testing.T) {
	for _, c := range []struct {
		l    []int
		want uint64
	}{
		{nil, 0}, {[]int{}, 0}, {[]int{0}, 1}, {[]int{63}, 1 << 63}, {[]int{3, 0}, 9}, {[]int{0, 3}, 9},
		{[]int{3, 0, 64}, 9}, {[]int{64, 3, -1, 0}, 9}, {[]int{5, 5, 5}, 32}, {[]int{5, 1, 5}, 34},
		{[]int{64}, 0}, {[]int{-1}, 0}, {[]int{62, 63}, 3 << 62}, {none, 0}, {append([]int{7}, none...), 128},
	} {
		if got := Of(c.l...); got != c.want {
			t.Errorf("Of(%v) = %#x, want %#x", c.l, got, c.want)
		}
	}
	if Of() != 0 || Of(1, 2) != 6 {
		t.Error("Of of threads one by one")
	}
	var l []int
	for i := range 64 {
		l = append(l, 63-i)
	}
	if got := Of(l...); got != all {
		t.Errorf("Of of all = %#x", got)
	}
}

// P2.1, R5: the list is neither written nor read beyond its length.
func TestOfLeavesTheList(t *testing.T) {
	l := []int{9, -1, 2, 70, 2, 5}
	before := slices.Clone(l)
	if got := Of(l[:4]...); got != 1<<9|1<<2 {
		t.Errorf("Of = %#x", got)
	}
	if !slices.Equal(l, before) {
		t.Errorf("the list came to %v", l)
	}
	s := Of(l...)
	l[0] = 1
	if s != 1<<9|1<<2|1<<5 || Of(before...) != s {
		t.Errorf("Of hangs on a later write: %#x", s)
	}
}

// P2.1: Has, With, Without of threads.
func TestSetsWithAndWithout(t *testing.T) {
	for _, s := range samples() {
		in := members(s)
		for x := range 64 {
			with, without := With(s, x), Without(s, x)
			if Has(s, x) != slices.Contains(in, x) {
				t.Errorf("Has(%#x, %d) = %v", s, x, Has(s, x))
			}
			for y := range 64 {
				is := slices.Contains(in, y)
				if slices.Contains(members(with), y) != (is || x == y) || slices.Contains(members(without), y) != (is && x != y) {
					t.Fatalf("of %#x and %d came %#x and %#x", s, x, with, without)
				}
			}
		}
	}
	if With(0, 63) != 1<<63 || With(0, 0) != 1 || With(9, 1) != 11 || Without(11, 1) != 9 || Without(9, 1) != 9 || With(9, 3) != 9 {
		t.Error("With or Without of small sets")
	}
	if !Has(1<<63, 63) || Has(1<<63, 62) || Has(1<<63, 0) || !Has(1, 0) {
		t.Error("Has at the ends")
	}
}

// P2.1: what is no thread is in no set, and changes none.
func TestWhatIsNoThreadIsNowhere(t *testing.T) {
	for _, s := range samples() {
		for _, x := range none {
			if Has(s, x) || With(s, x) != s || Without(s, x) != s {
				t.Errorf("%#x and %d: %v, %#x, %#x", s, x, Has(s, x), With(s, x), Without(s, x))
			}
		}
	}
}

// P2.1: Count.
func TestCountTellsHowMany(t *testing.T) {
	for _, c := range []struct {
		s    uint64
		want int
	}{{0, 0}, {1, 1}, {9, 2}, {1 << 63, 1}, {1<<63 | 1, 2}, {all, 64}, {all - 1, 63}, {0xff, 8}} {
		if got := Count(c.s); got != c.want {
			t.Errorf("Count(%#x) = %d, want %d", c.s, got, c.want)
		}
	}
	for _, s := range samples() {
		if got := Count(s); got != len(members(s)) {
			t.Errorf("Count(%#x) = %d, want %d", s, got, len(members(s)))
		}
	}
}

// P2.1: First.
func TestFirstTellsTheThreadsBelow(t *testing.T) {
	for _, c := range []struct {
		n    int
		want uint64
	}{
		{0, 0}, {1, 1}, {2, 3}, {8, 255}, {32, 1<<32 - 1}, {63, 1<<63 - 1}, {64, all}, {65, all}, {66, all}, {128, all},
		{1 << 32, all}, {1 << 62, all}, {math.MaxInt, all}, {-1, 0}, {-64, 0}, {-63, 0}, {math.MinInt, 0}, {math.MinInt + 1, 0},
	} {
		if got := First(c.n); got != c.want {
			t.Errorf("First(%d) = %#x, want %#x", c.n, got, c.want)
		}
	}
	for n := -70; n <= 140; n++ {
		for x := -3; x < 70; x++ {
			if Has(First(n), x) != (x >= 0 && x < 64 && x < n) {
				t.Errorf("First(%d) = %#x, of %d", n, First(n), x)
			}
		}
	}
}

// P2.2: Each goes through a set, rising, as often as one likes.
func TestEachGoesThrough(t *testing.T) {
	for _, s := range samples() {
		each, want := Each(s), members(s)
		for range 3 {
			var got []int
			for x := range each {
				got = append(got, x)
			}
			if !slices.Equal(got, want) {
				t.Errorf("Each(%#x) went through %v, want %v", s, got, want)
			}
		}
	}
	if Each(0) == nil {
		t.Error("a sequence that is nil")
	}
}

// P2.2: who goes through it may stop early, and begin again.
func TestEachMayBeLeft(t *testing.T) {
	for _, s := range samples() {
		each, want := Each(s), members(s)
		for stop := 1; stop <= len(want); stop++ {
			var got []int
			each(func(x int) bool {
				got = append(got, x)
				return len(got) < stop
			})
			if !slices.Equal(got, want[:stop]) {
				t.Fatalf("Each(%#x), left after %d, went through %v", s, stop, got)
			}
		}
		if got := slices.Collect(each); !slices.Equal(got, want) {
			t.Errorf("Each(%#x), after it was left, went through %v", s, got)
		}
	}
}

// P2.2: one sequence may be gone through while it is gone through.
func TestEachMayBeNested(t *testing.T) {
	each := Each(Of(1, 4, 63))
	var got []int
	for a := range each {
		for b := range each {
			got = append(got, 100*a+b)
		}
	}
	if !slices.Equal(got, []int{101, 104, 163, 401, 404, 463, 6301, 6304, 6363}) {
		t.Errorf("went through %v", got)
	}
}

// P2.2: Text.
func TestTextTellsThreads(t *testing.T) {
	for _, c := range []struct {
		s    uint64
		want string
	}{
		{0, "-"}, {1, "0"}, {2, "1"}, {9, "0+3"}, {Of(3, 0, 64), "0+3"}, {Of(12, 7, 63, 1), "1+7+12+63"},
		{1 << 63, "63"}, {1<<63 | 1, "0+63"}, {3 << 9, "9+10"}, {Of(none...), "-"}, {First(3), "0+1+2"},
	} {
		if got := Text(c.s); got != c.want {
			t.Errorf("Text(%#x) = %q, want %q", c.s, got, c.want)
		}
	}
	for _, s := range samples() {
		var words []string
		for _, x := range members(s) {
			words = append(words, strconv.Itoa(x))
		}
		want := strings.Join(words, "+")
		if s == 0 {
			want = "-"
		}
		if got := Text(s); got != want {
			t.Errorf("Text(%#x) = %q, want %q", s, got, want)
		}
	}
}

// P2.3: a set is what it is gone through.
func TestSetIsWhatItIsGoneThrough(t *testing.T) {
	for _, s := range samples() {
		l := gone(s)
		if got := Of(l...); got != s {
			t.Errorf("of %#x came %v, and of that %#x", s, l, got)
		}
		if len(l) != Count(s) {
			t.Errorf("%#x has %d, and goes through %v", s, Count(s), l)
		}
		for x := -2; x < 70; x++ {
			if slices.Contains(l, x) != Has(s, x) {
				t.Errorf("%#x goes through %v, and has %d: %v", s, l, x, Has(s, x))
			}
		}
	}
}

// P2.3: unlike sets have unlike texts.
func TestUnlikeSetsHaveUnlikeTexts(t *testing.T) {
	texts := map[string]uint64{}
	see := func(s uint64) {
		text := Text(s)
		if other, ok := texts[text]; ok && other != s {
			t.Errorf("%#x and %#x have one text, %q", s, other, text)
		}
		texts[text] = s
	}
	for s := range uint64(1 << 14) {
		see(s)
		see(s << 50)
	}
	for _, s := range samples() {
		see(s)
	}
}
