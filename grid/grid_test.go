package grid

import (
	"math"
	"testing"

	"kevel/plane"
)

// spot is a point as two ints, which the tests reckon with by themselves.
type spot struct{ x, y int }

// number is a spot as a complex number.
func (s spot) number() complex128 { return complex(float64(s.x), float64(s.y)) }

// listed are the points of the triangle of 64 by their names: each diagonal is gone along from where y is 0.
func listed() []spot {
	var l []spot
	for d := range 64 {
		for x, y := d, 0; x >= 0; x, y = x-1, y+1 {
			l = append(l, spot{x, y})
		}
	}
	return l
}

// sides are numbers that may be handed in as a triangle's n.
func sides() []int {
	l := []int{math.MinInt, math.MinInt + 1, -1 << 32, -1 << 31, -65, -64, -2, 66, 100, 127, 128, 255, 256, 1 << 20, 1 << 31, 1 << 32, 1<<32 + 1, 1 << 62, math.MaxInt - 1, math.MaxInt}
	for n := -1; n <= 65; n++ {
		l = append(l, n)
	}
	return l
}

// nearest is a triangle's n as it counts.
func nearest(n int) int {
	if n < 0 {
		return 0
	}
	if n > 64 {
		return 64
	}
	return n
}

// below is the nought below nought.
func below() float64 { return math.Copysign(0, -1) }

// off are points, and numbers that are none, which are on no triangle.
func off() []complex128 {
	l := []complex128{
		-1, -1i, -1 - 1i, 1 - 1i, -1 + 1i, 5 - 3i, -3 + 5i, 70 - 10i, -10 + 70i, 64 - 1i, -1 + 64i, 63 - 63i, -63 + 63i,
		64, 64i, 63 + 1i, 1 + 63i, 32 + 32i, 63 + 63i, 65, 65i, 64 + 64i, 100 + 100i, 1048576, 1048576i, 1048576 + 1048576i, -1048576, -1048576i,
		0.5, 0.5i, 1 + 0.5i, 0.5 + 1i, 0.5 + 0.5i, -0.5, -0.5i, 1.5 + 1.5i, 62.5, 62.5i, 63.5, 0.999, 0.999i,
		1048577, 1048577i, 0x1p32, 0x1p63, 0x1p64, -0x1p63, -0x1p64, 0x1p32i, 0x1p64i, 0x1p64 - 0x1p64i,
		complex(math.SmallestNonzeroFloat64, 0), complex(0, math.SmallestNonzeroFloat64), complex(math.Nextafter(1, 0), 1), complex(1, math.Nextafter(1, 2)),
	}
	for _, f := range []float64{math.NaN(), math.Inf(1), math.Inf(-1), math.MaxFloat64, -math.MaxFloat64} {
		l = append(l, complex(f, 0), complex(0, f), complex(f, f), complex(1, f), complex(f, 1), complex(f, -f))
	}
	return l
}

// P5.1: how many points a triangle has, n as from 0 to 64.
func TestSize(t *testing.T) {
	for _, n := range sides() {
		want := 0
		for _, s := range listed() {
			if s.x+s.y < nearest(n) {
				want++
			}
		}
		if got := Size(n); got != want {
			t.Fatal(n, got, want)
		}
	}
	for n, want := range []int{0, 1, 3, 6, 10, 15} {
		if got := Size(n); got != want {
			t.Fatal(n, got, want)
		}
	}
	if Size(64) != 2080 || Size(65) != 2080 || Size(-1) != 0 {
		t.Fatal(Size(64), Size(65), Size(-1))
	}
}

// P5.1: a point is on a triangle just if its parts are from 0 on, and together below n.
func TestOn(t *testing.T) {
	for _, n := range sides() {
		for x := -3; x <= 67; x++ {
			for y := -3; y <= 67; y++ {
				want := x >= 0 && y >= 0 && x+y < nearest(n)
				if got := On(n, spot{x, y}.number()); got != want {
					t.Fatal(n, x, y, got)
				}
			}
		}
	}
}

// P5.1: a point's diagonal, and its name.
func TestDiagonalAndName(t *testing.T) {
	for name, s := range listed() {
		if got := Diagonal(s.number()); got != s.x+s.y {
			t.Fatal(s, got)
		}
		if got := Name(s.number()); got != name {
			t.Fatal(s, got, name)
		}
	}
}

// P5.1: the first names, as they are told by hand, and the last ones.
func TestNamesByHand(t *testing.T) {
	for _, c := range []struct {
		z    complex128
		d, n int
	}{
		{0, 0, 0}, {1, 1, 1}, {1i, 1, 2}, {2, 2, 3}, {1 + 1i, 2, 4}, {2i, 2, 5}, {3, 3, 6}, {2 + 1i, 3, 7}, {1 + 2i, 3, 8}, {3i, 3, 9}, {4, 4, 10},
		{62, 62, 1953}, {62i, 62, 2015}, {63, 63, 2016}, {62 + 1i, 63, 2017}, {1 + 62i, 63, 2078}, {63i, 63, 2079},
	} {
		if d, n := Diagonal(c.z), Name(c.z); d != c.d || n != c.n {
			t.Fatal(c, d, n)
		}
		if z := At(c.n); z != c.z {
			t.Fatal(c, z)
		}
	}
}

// P5.1: what is on no triangle is on none of any n, and has no diagonal and no name.
func TestWhatIsOnNoTriangle(t *testing.T) {
	for _, z := range off() {
		if d, name := Diagonal(z), Name(z); d != -1 || name != -1 {
			t.Fatal(z, d, name)
		}
		for _, n := range sides() {
			if On(n, z) {
				t.Fatal(n, z)
			}
		}
	}
}

// P5.1: a nought below nought is the whole number 0.
func TestNoughtsBelowNought(t *testing.T) {
	for _, c := range []struct {
		z    complex128
		d, n int
	}{
		{complex(below(), below()), 0, 0}, {complex(0, below()), 0, 0}, {complex(below(), 0), 0, 0}, {complex(2, below()), 2, 3}, {complex(below(), 2), 2, 5},
	} {
		if d, n := Diagonal(c.z), Name(c.z); d != c.d || n != c.n || !On(c.d+1, c.z) || On(c.d, c.z) {
			t.Fatal(c, d, n)
		}
	}
}

// P5.2: the point of each name of the triangle of 64, without a nought below nought.
func TestAt(t *testing.T) {
	for name, s := range listed() {
		z := At(name)
		if z != s.number() || math.Signbit(real(z)) || math.Signbit(imag(z)) {
			t.Fatal(name, z, s)
		}
	}
}

// P5.2: 0, if there is no such name.
func TestAtOfNoName(t *testing.T) {
	for _, name := range []int{math.MinInt, math.MinInt + 1, -1 << 32, -1 << 31, -2080, -2, -1, 2080, 2081, 2144, 2145, 2146, 4096, 1 << 20, 1 << 31, 1 << 32, 1<<32 + 4, 1 << 62, math.MaxInt - 1, math.MaxInt} {
		if z := At(name); z != 0 || math.Signbit(real(z)) || math.Signbit(imag(z)) {
			t.Fatal(name, z)
		}
	}
}

// P5.3: the names of the triangle of n are those below Size(n), each once.
func TestNamesOfATriangle(t *testing.T) {
	for _, n := range sides() {
		seen := make([]int, Size(n))
		for x := range 70 {
			for y := range 70 {
				z := spot{x, y}.number()
				if !On(n, z) {
					continue
				}
				name := Name(z)
				if name < 0 || name >= len(seen) {
					t.Fatal(n, z, name)
				}
				seen[name]++
			}
		}
		for name, times := range seen {
			if times != 1 || !On(n, At(name)) || Name(At(name)) != name {
				t.Fatal(n, name, times, At(name))
			}
		}
	}
}

// P5.3: whoever goes fewer than k steps, each 1 or i, has a name below Size(k).
func TestFewStepsHaveSmallNames(t *testing.T) {
	for way := range 1 << 12 {
		z := complex128(0)
		for steps := range 13 {
			for k := steps + 1; k <= 14; k++ {
				if name := Name(z); name < 0 || name >= Size(k) {
					t.Fatal(way, steps, k, z, name)
				}
			}
			letter := "rd"[way>>steps&1]
			z, _ = plane.Go(z, string([]byte{letter}))
		}
	}
}

// P5.3: so it is on long ways, up to the greatest triangle's last diagonal, and no further.
func TestManyStepsHaveSmallNames(t *testing.T) {
	for down := range 64 {
		z := complex128(0)
		for steps := range 64 {
			if name := Name(z); name < Size(steps) || name >= Size(steps+1) {
				t.Fatal(down, steps, z, name)
			}
			if steps < down {
				z += 1i
			} else {
				z += 1
			}
		}
		if Name(z) != -1 {
			t.Fatal(down, z, Name(z))
		}
	}
}
