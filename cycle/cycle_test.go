package cycle

import (
	"math"
	"slices"
	"strings"
	"testing"

	"kevel/api"
)

// most is how many digits a row has at most.
const most = 8

// ring are the digits that beat others, pair by pair: the first one beats the second one.
func ring() [][2]int { return [][2]int{{1, 0}, {2, 1}, {0, 2}} }

// odd are numbers that are no digits, of which some are digits modulo 3, or with fewer bits, or by their letters.
func odd() []int {
	return []int{-1, -2, -3, 3, 4, 5, 6, 9, 48, 49, 50, 255, 256, 257, 258, -256, 1 << 16, 1<<16 + 1, 1 << 32, 1<<32 + 1, 1<<32 + 2, -1 << 32, 1 << 62, math.MaxInt, math.MaxInt - 1, math.MinInt, math.MinInt + 1, math.MinInt + 2}
}

// rows are all rows of n digits.
func rows(n int) [][]int {
	if n == 0 {
		return [][]int{{}}
	}
	var l [][]int
	for _, front := range rows(n - 1) {
		for d := range 3 {
			l = append(l, append(slices.Clone(front), d))
		}
	}
	return l
}

// some are every step-th of the rows of n digits.
func some(n, step int) [][]int {
	var l [][]int
	for i, row := range rows(n) {
		if i%step == 0 {
			l = append(l, row)
		}
	}
	return l
}

// spoiled are lists that are no rows: too long ones, and rows in which one place has what is no digit.
func spoiled() [][]int {
	l := [][]int{make([]int, most+1), make([]int, most+2), make([]int, 2*most), make([]int, 100), make([]int, 259), make([]int, 1<<16)}
	for n := 1; n <= most; n++ {
		for i := range n {
			for _, x := range odd() {
				row := make([]int, n)
				row[i] = x
				l = append(l, row)
			}
		}
	}
	return l
}

// beaten is whether b is the digit that a beats, told by the pairs alone.
func beaten(a, b int) bool { return slices.Contains(ring(), [2]int{a, b}) }

// above is whether a dominates b, of two rows that are equally long: what is alike at the front is left out.
func above(a, b []int) bool {
	for len(a) > 0 && a[0] == b[0] {
		a, b = a[1:], b[1:]
	}
	return len(a) > 0 && beaten(a[0], b[0])
}

// P6.1: the digit that beats d; 0, if d is no digit.
func TestNext(t *testing.T) {
	for _, pair := range ring() {
		if got := Next(pair[1]); got != pair[0] {
			t.Fatal(pair, got)
		}
	}
	for _, d := range odd() {
		if got := Next(d); got != 0 {
			t.Fatal(d, got)
		}
	}
}

// P6.1: a beats b just if it is the next one in the ring; false, if one is no digit.
func TestBeats(t *testing.T) {
	l := append(odd(), 0, 1, 2)
	wins := 0
	for _, a := range l {
		for _, b := range l {
			if got := Beats(a, b); got != beaten(a, b) {
				t.Fatal(a, b, got)
			} else if got {
				wins++
			}
		}
	}
	if wins != 3 {
		t.Fatal(wins)
	}
}

// P6.1: a row is digits, at most 8; it may have none.
func TestFine(t *testing.T) {
	if !Fine(nil) || !Fine([]int{}) {
		t.Fatal("a row of no digits")
	}
	for n := range most + 1 {
		for _, row := range rows(n) {
			if !Fine(row) {
				t.Fatal(row)
			}
		}
	}
	for _, l := range spoiled() {
		if Fine(l) {
			t.Fatal(l)
		}
	}
}

// P6.1: the digit at the first place where they are unlike beats the other one's.
func TestDominates(t *testing.T) {
	for n := range 6 {
		for _, a := range rows(n) {
			for _, b := range rows(n) {
				if got := Dominates(a, b); got != above(a, b) {
					t.Fatal(a, b, got)
				}
			}
		}
	}
	for n := 6; n <= most; n++ {
		for _, a := range some(n, 23) {
			for _, b := range some(n, 29) {
				if got := Dominates(a, b); got != above(a, b) {
					t.Fatal(a, b, got)
				}
			}
		}
	}
}

// P6.1: the first unlike place may be each of the eight; the places behind it tell nothing.
func TestDominatesAtEachPlace(t *testing.T) {
	for _, pair := range ring() {
		for i := range most {
			for _, tail := range rows(min(most-1-i, 3)) {
				a, b := slices.Repeat([]int{pair[0]}, i), slices.Repeat([]int{pair[0]}, i)
				a, b = append(a, pair[0]), append(b, pair[1])
				// What is behind is such as tells the other way, if it tells anything.
				for _, d := range tail {
					a, b = append(a, d), append(b, []int{1, 2, 0}[d])
				}
				if !Dominates(a, b) || Dominates(b, a) {
					t.Fatal(a, b)
				}
			}
		}
	}
}

// P6.1: of rows by hand, of the chapter's example, and of rows that are the same.
func TestDominatesByHand(t *testing.T) {
	for _, c := range []struct {
		a, b []int
		want bool
	}{
		{[]int{0, 1}, []int{2, 2}, true}, {[]int{0, 1}, []int{0, 0}, true}, {[]int{2, 2}, []int{0, 1}, false}, {[]int{0, 0}, []int{0, 1}, false},
		{[]int{1}, []int{0}, true}, {[]int{2}, []int{1}, true}, {[]int{0}, []int{2}, true}, {[]int{0}, []int{1}, false}, {[]int{1}, []int{2}, false}, {[]int{2}, []int{0}, false},
		{nil, nil, false}, {[]int{}, nil, false}, {nil, []int{}, false}, {[]int{1}, []int{1}, false}, {[]int{2, 1, 0}, []int{2, 1, 0}, false},
	} {
		if got := Dominates(c.a, c.b); got != c.want {
			t.Fatal(c, got)
		}
	}
}

// P6.1: rows that are not equally long do not dominate one another.
func TestDominatesOfUnlikeLengths(t *testing.T) {
	for n := range 5 {
		for m := range 5 {
			if n == m {
				continue
			}
			for _, a := range rows(n) {
				for _, b := range rows(m) {
					if Dominates(a, b) {
						t.Fatal(a, b)
					}
				}
			}
		}
	}
	if Dominates(slices.Repeat([]int{1}, most), make([]int, most-1)) || Dominates(slices.Repeat([]int{1}, most-1), make([]int, most)) {
		t.Fatal("8 and 7 digits")
	}
}

// P6.1: what is no row dominates none, and none dominates it, even if it is so behind the first unlike place.
func TestDominatesOfNoRows(t *testing.T) {
	for _, l := range spoiled() {
		for d := range 3 {
			row := slices.Repeat([]int{d}, len(l))
			if Dominates(l, row) || Dominates(row, l) || Dominates(l, l) {
				t.Fatal(l, row)
			}
		}
	}
	for _, x := range odd() {
		for _, pair := range ring() {
			a, b := []int{pair[0], x}, []int{pair[1], 0}
			if Dominates(a, b) || Dominates(b, a) || Dominates(a, []int{pair[1], x}) {
				t.Fatal(a, b)
			}
		}
	}
	for n := most + 1; n < 20; n++ {
		for _, pair := range ring() {
			if Dominates(slices.Repeat([]int{pair[0]}, n), slices.Repeat([]int{pair[1]}, n)) {
				t.Fatal(n, pair)
			}
		}
	}
}

// P6.1: n digits 0, n as from 0 to 8, the nearest.
func TestZeros(t *testing.T) {
	for n := range most + 1 {
		l := Zeros(n)
		if len(l) != n || slices.ContainsFunc(l, func(d int) bool { return d != 0 }) {
			t.Fatal(n, l)
		}
	}
	for _, n := range []int{-1, -2, -8, -9, -1 << 32, math.MinInt, math.MinInt + 1} {
		if l := Zeros(n); len(l) != 0 {
			t.Fatal(n, l)
		}
	}
	for _, n := range []int{9, 10, 16, 255, 256, 1 << 31, 1 << 32, 1<<32 + 3, 1 << 62, math.MaxInt - 1, math.MaxInt} {
		if l := Zeros(n); !slices.Equal(l, []int{0, 0, 0, 0, 0, 0, 0, 0}) {
			t.Fatal(n, l)
		}
	}
}

// P6.1, R5: each list of digits 0 is new memory.
func TestZerosIsNew(t *testing.T) {
	for n := 1; n <= most; n++ {
		a, b := Zeros(n), Zeros(n)
		a[0], a[n-1] = 2, 2
		if b[0] != 0 || b[n-1] != 0 || Zeros(n)[0] != 0 || Zeros(n)[n-1] != 0 {
			t.Fatal(n, a, b)
		}
	}
}

// P6.2: a row's digits, each a byte; `-` of none.
func TestText(t *testing.T) {
	for n := 1; n <= most; n++ {
		for _, row := range rows(n) {
			var want []string
			for _, d := range row {
				want = append(want, []string{"0", "1", "2"}[d])
			}
			if got := Text(row); got != strings.Join(want, "") {
				t.Fatal(row, got)
			}
		}
	}
	if Text(nil) != "-" || Text([]int{}) != "-" || Text([]int{2, 0, 1, 1, 2, 0, 0, 1}) != "20112001" {
		t.Fatal(Text(nil), Text([]int{}))
	}
}

// P6.2: empty of what is no row.
func TestTextOfNoRow(t *testing.T) {
	for _, l := range spoiled() {
		if got := Text(l); got != "" {
			t.Fatal(l, got)
		}
	}
}

// P6.2: a text's row; no two rows have one text.
func TestParse(t *testing.T) {
	seen := map[string]int{}
	for n := range most + 1 {
		for _, row := range rows(n) {
			s := Text(row)
			got, e := Parse(s)
			if e != api.OK || !slices.Equal(got, row) {
				t.Fatal(row, s, got, e)
			}
			seen[s]++
		}
	}
	// (3^9 - 1) / 2 rows there are of 0 to 8 digits.
	if len(seen) != 9841 {
		t.Fatal(len(seen))
	}
	for _, c := range []struct {
		s    string
		want []int
	}{{"-", nil}, {"0", []int{0}}, {"2", []int{2}}, {"01", []int{0, 1}}, {"0000", []int{0, 0, 0, 0}}, {"21012012", []int{2, 1, 0, 1, 2, 0, 1, 2}}} {
		if got, e := Parse(c.s); e != api.OK || !slices.Equal(got, c.want) {
			t.Fatal(c, got, e)
		}
	}
}

// P6.2: ErrForm of each text that is the text of no row, which is beside no list.
func TestParseOfNoText(t *testing.T) {
	for _, s := range []string{
		"", "--", "-0", "0-", "-1", "0-1", "3", "03", "30", "0120123", "9", "a", " ", " 0", "0 ", "0 1", "0,1", "+1", "0\n", "\n", "\x00", "\x01", "\x02", "0\x00", "\x000",
		"\xff", "0\xff", "é", "日", "٠", "０", "１", "²", "−", "–", "0x1", "[0]", "{}",
		"000000000", "012012012", "012012012012", "--------", "---------", "01201201-", "-01201201", "0120120-", strings.Repeat("0", 256), strings.Repeat("0", 258), strings.Repeat("1", 1<<16), strings.Repeat("1", 1<<24),
	} {
		if got, e := Parse(s); e != api.ErrForm || len(got) != 0 {
			t.Fatal(len(s), got, e)
		}
	}
}

// P6.2: of all bytes only three tell digits, at each place, and one tells none.
func TestParseKnowsThreeBytes(t *testing.T) {
	for x := range 256 {
		for n := 1; n <= most; n++ {
			for i := range n {
				b := []byte(strings.Repeat("1", n))
				b[i] = byte(x)
				got, e := Parse(string(b))
				digit := strings.IndexByte("012", byte(x))
				switch {
				case digit >= 0:
					want := slices.Repeat([]int{1}, n)
					want[i] = digit
					if e != api.OK || !slices.Equal(got, want) {
						t.Fatal(b, got, e)
					}
				case n == 1 && x == '-':
					if e != api.OK || len(got) != 0 {
						t.Fatal(b, got, e)
					}
				case e != api.ErrForm || len(got) != 0:
					t.Fatal(b, got, e)
				}
			}
		}
	}
}

// P6.2, R5: each row that is read is new memory.
func TestParseIsNew(t *testing.T) {
	a, _ := Parse("012")
	a[0], a[2] = 2, 1
	if b, e := Parse("012"); e != api.OK || !slices.Equal(b, []int{0, 1, 2}) || a[0] != 2 {
		t.Fatal(a, b, e)
	}
}

// P6.1, P6.2, R5: no call writes into what it was handed, or reads behind its length.
func TestListsAreLeft(t *testing.T) {
	a := []int{0, 1, 2, 9, -1, 7, 7, 7, 7, 7, 7}
	b := []int{0, 1, 1, 0, 0, 0, 0, 0, 0, 0, 0}
	before, other := slices.Clone(a), slices.Clone(b)
	if !Fine(a[:3]) || !Dominates(a[:3], b[:3]) || Dominates(b[:3], a[:3]) || Dominates(b[:2], a[:2]) || Text(a[:3]) != "012" || Text(b[:0]) != "-" {
		t.Fatal(Fine(a[:3]), Dominates(a[:3], b[:3]), Text(a[:3]), Text(b[:0]))
	}
	if !slices.Equal(a, before) || !slices.Equal(b, other) {
		t.Fatal(a, b)
	}
}

// P6.3: of two unlike rows that are equally long just one dominates the other one.
func TestOneOfTwoDominates(t *testing.T) {
	hold := func(a, b []int) {
		t.Helper()
		if one, other := Dominates(a, b), Dominates(b, a); one == other != slices.Equal(a, b) || one && other {
			t.Fatal(a, b, one, other)
		}
	}
	for n := range 6 {
		for _, a := range rows(n) {
			for _, b := range rows(n) {
				hold(a, b)
			}
		}
	}
	for n := 6; n <= most; n++ {
		for _, a := range some(n, 19) {
			for _, b := range some(n, 25) {
				hold(a, b)
			}
		}
	}
}

// P6.3: three rows may dominate one another in a ring: those that are alike but at one place do, at each place.
func TestThreeInARing(t *testing.T) {
	for n := 1; n <= most; n++ {
		for i := range n {
			for _, row := range some(n, 5) {
				zero, one, two := slices.Clone(row), slices.Clone(row), slices.Clone(row)
				zero[i], one[i], two[i] = 0, 1, 2
				if !Dominates(one, zero) || !Dominates(two, one) || !Dominates(zero, two) {
					t.Fatal(zero, one, two)
				}
			}
		}
	}
}
