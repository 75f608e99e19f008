package plane

import (
	"math"
	"math/big"
	"strconv"
	"strings"
	"testing"

	"kevel/api"
)

const room = 1 << 20

// spot is a point as two ints, which the tests reckon with by themselves.
type spot struct{ x, y int }

// number is a spot as a complex number.
func (s spot) number() complex128 { return complex(float64(s.x), float64(s.y)) }

// inside is whether a spot is a point.
func (s spot) inside() bool { return s.x >= -room && s.x <= room && s.y >= -room && s.y <= room }

// turned is a spot, turned k times, k from 0 on.
func (s spot) turned(k int) spot {
	for ; k > 0; k-- {
		s = spot{-s.y, s.x}
	}
	return s
}

// parts are parts of points, at the edges and in between.
func parts() []int {
	return []int{-room, -room + 1, -1 << 19, -1024, -1000, -100, -33, -2, -1, 0, 1, 2, 3, 31, 32, 33, 64, 65, 1000, 1023, 1024, 1025, 1 << 19, room - 1, room}
}

// spots are all spots of these parts.
func spots() []spot {
	var l []spot
	for _, x := range parts() {
		for _, y := range parts() {
			l = append(l, spot{x, y})
		}
	}
	return l
}

// below is the nought below nought.
func below() float64 { return math.Copysign(0, -1) }

// nones are numbers that no part of a point is.
func nones() []float64 {
	return []float64{
		math.NaN(), math.Inf(1), math.Inf(-1), math.MaxFloat64, -math.MaxFloat64,
		math.SmallestNonzeroFloat64, -math.SmallestNonzeroFloat64, 0.5, -0.5, 1.5, -1.5, 0.999999999, 1e-300,
		room + 1, -room - 1, room + 0.5, -room - 0.5, room - 0.5, -room + 0.5,
		math.Nextafter(room, math.Inf(1)), math.Nextafter(-room, math.Inf(-1)), math.Nextafter(room, 0), math.Nextafter(1, 2), math.Nextafter(1, 0),
		1 << 21, 1 << 31, 1 << 32, 1 << 53, 1 << 62, 1 << 63, 1 << 64, -1 << 63, -1 << 64,
	}
}

// strange are numbers that are no points.
func strange() []complex128 {
	var l []complex128
	for _, f := range nones() {
		for _, g := range []float64{0, below(), 1, -7, room, -room} {
			l = append(l, complex(f, g), complex(g, f))
		}
		l = append(l, complex(f, f))
	}
	return l
}

// signed is whether a part is a nought below nought.
func signed(z complex128) bool {
	return real(z) == 0 && math.Signbit(real(z)) || imag(z) == 0 && math.Signbit(imag(z))
}

// hold holds a point that is told against what is to be.
func hold(t *testing.T, what string, got complex128, want spot) {
	t.Helper()
	if got != want.number() || signed(got) {
		t.Fatalf("%s: got %v, want %v", what, got, want)
	}
}

// P4.1: a point with some parts, each the nearest.
func TestAtIsTheNearestPoint(t *testing.T) {
	nearest := func(n int) int {
		if n < -room {
			return -room
		}
		if n > room {
			return room
		}
		return n
	}
	edges := append(parts(), math.MinInt, math.MinInt+1, -1<<53-1, -1<<32, -1<<31, -room-2, -room-1, room+1, room+2, 1<<31, 1<<32, 1<<53+1, math.MaxInt-1, math.MaxInt)
	for _, x := range edges {
		for _, y := range edges {
			hold(t, "At", At(x, y), spot{nearest(x), nearest(y)})
		}
	}
}

// P4.1: a point's parts, and that it is one.
func TestPartsOfAPoint(t *testing.T) {
	for _, s := range spots() {
		if x, y, ok := Parts(s.number()); x != s.x || y != s.y || !ok {
			t.Fatal(s, x, y, ok)
		}
	}
}

// P4.1: a nought below nought is a whole number, too; what is no point has no parts.
func TestPartsOfOtherNumbers(t *testing.T) {
	for _, z := range []complex128{complex(below(), below()), complex(0, below()), complex(below(), 0)} {
		if x, y, ok := Parts(z); x != 0 || y != 0 || !ok {
			t.Fatal(z, x, y, ok)
		}
	}
	if x, y, ok := Parts(complex(below(), -5)); x != 0 || y != -5 || !ok {
		t.Fatal(x, y, ok)
	}
	for _, z := range strange() {
		if x, y, ok := Parts(z); x != 0 || y != 0 || ok {
			t.Fatal(z, x, y, ok)
		}
	}
}

// P4.1: a point times i, k times over, k modulo 4.
func TestTurn(t *testing.T) {
	four := big.NewInt(4)
	for _, k := range []int{0, 1, 2, 3, 4, 5, 6, 7, 8, -1, -2, -3, -4, -5, -6, -7, -8, 1001, -1001, math.MaxInt, math.MaxInt - 1, math.MaxInt - 2, math.MaxInt - 3, math.MinInt, math.MinInt + 1, math.MinInt + 2, math.MinInt + 3} {
		left := int(new(big.Int).Mod(big.NewInt(int64(k)), four).Int64())
		for _, s := range spots() {
			hold(t, "Turn by "+strconv.Itoa(k), Turn(s.number(), k), s.turned(left))
		}
	}
}

// P4.1: of what is no point, Turn tells 0; no nought that it tells is below nought.
func TestTurnOfOtherNumbers(t *testing.T) {
	for k := -5; k <= 5; k++ {
		for _, z := range strange() {
			hold(t, "Turn of no point", Turn(z, k), spot{})
		}
		for _, z := range []complex128{complex(below(), below()), complex(0, below()), complex(below(), 0)} {
			hold(t, "Turn of nought", Turn(z, k), spot{})
		}
	}
	hold(t, "Turn by 0", Turn(complex(below(), 3), 0), spot{0, 3})
	hold(t, "Turn by 0", Turn(complex(3, below()), 4), spot{3, 0})
}

// P4.1: the product of two points, if it is one.
func TestTimes(t *testing.T) {
	kept, gone := 0, 0
	for _, a := range spots() {
		for _, b := range spots() {
			want := spot{a.x*b.x - a.y*b.y, a.x*b.y + a.y*b.x}
			z, ok := Times(a.number(), b.number())
			if ok != want.inside() {
				t.Fatal(a, b, z, ok)
			}
			if !ok {
				gone++
				want = spot{}
			} else {
				kept++
			}
			hold(t, "Times", z, want)
		}
	}
	if kept < 1000 || gone < 1000 {
		t.Fatal(kept, gone)
	}
}

// P4.1: products at the edge of the room.
func TestTimesAtTheEdge(t *testing.T) {
	for _, c := range []struct {
		a, b, want spot
		ok         bool
	}{
		{spot{1024, 0}, spot{1024, 0}, spot{room, 0}, true},
		{spot{1024, 0}, spot{0, -1024}, spot{0, -room}, true},
		{spot{1024, 0}, spot{1025, 0}, spot{}, false},
		{spot{1024, 1}, spot{1024, 1}, spot{room - 1, 2048}, true},
		{spot{1, 1}, spot{room, 0}, spot{room, room}, true},
		{spot{1, 1}, spot{room, 1}, spot{}, false},
		{spot{1, 1}, spot{room, -1}, spot{}, false},
		{spot{room, room}, spot{room, room}, spot{}, false},
		{spot{room, room}, spot{0, 0}, spot{}, true},
		{spot{0, 1}, spot{0, 1}, spot{-1, 0}, true},
		{spot{2, 3}, spot{4, 5}, spot{-7, 22}, true},
	} {
		z, ok := Times(c.a.number(), c.b.number())
		if ok != c.ok {
			t.Fatal(c, z, ok)
		}
		hold(t, "Times", z, c.want)
	}
}

// P4.1: of what is no point, there is no product, even if the numbers have one that is a point.
func TestTimesOfOtherNumbers(t *testing.T) {
	for _, z := range strange() {
		for _, s := range []complex128{0, 1, 2, 1i, 1 << 20, z} {
			for _, pair := range [][2]complex128{{z, s}, {s, z}} {
				if got, ok := Times(pair[0], pair[1]); got != 0 || signed(got) || ok {
					t.Fatal(pair, got, ok)
				}
			}
		}
	}
}

// P4.1: the sum of the squares of a point's parts; -1 of no point.
func TestNorm(t *testing.T) {
	for _, s := range spots() {
		want := new(big.Int).Mul(big.NewInt(int64(s.x)), big.NewInt(int64(s.x)))
		want.Add(want, new(big.Int).Mul(big.NewInt(int64(s.y)), big.NewInt(int64(s.y))))
		if got := Norm(s.number()); int64(got) != want.Int64() {
			t.Fatal(s, got, want)
		}
	}
	if got := Norm(complex(below(), below())); got != 0 {
		t.Fatal(got)
	}
	for _, z := range strange() {
		if got := Norm(z); got != -1 {
			t.Fatal(z, got)
		}
	}
}

// goal is where a way leads, told letter by letter.
func goal(s spot, way string) (spot, api.Errno) {
	for i := 0; i < len(way); i++ {
		next := map[byte]spot{'r': {s.x + 1, s.y}, 'l': {s.x - 1, s.y}, 'd': {s.x, s.y + 1}, 'u': {s.x, s.y - 1}}
		to, ok := next[way[i]]
		if !ok {
			return spot{}, api.ErrForm
		}
		if !to.inside() {
			return spot{}, api.ErrRange
		}
		s = to
	}
	return s, api.OK
}

// ways are all texts of up to four of these letters, and some more.
func ways() []string {
	l := []string{""}
	for from := 0; from < len(l) && len(l[from]) < 4; from++ {
		for _, letter := range []string{"r", "l", "d", "u", "x"} {
			l = append(l, l[from]+letter)
		}
	}
	return append(l, "R", "D", " r", "r ", "r\n", "\x00", "\xff", "r\xffr", "ré", "日", "rrdlu日", "ⓡ", "s", "q", "k", "m", "c", "e", "t", "v",
		strings.Repeat("r", 70), strings.Repeat("du", 100), strings.Repeat("rdlu", 40)+"x", strings.Repeat("lr", 40)+"lll")
}

// P4.2: a way is gone letter by letter; of two faults the one that stands first is told.
func TestGo(t *testing.T) {
	for _, s := range []spot{{0, 0}, {2, -3}, {room, 0}, {-room, 0}, {0, room}, {0, -room}, {room, room}, {-room, -room}, {room - 1, 1 - room}, {2 - room, room - 2}} {
		for _, way := range ways() {
			want, e := goal(s, way)
			z, got := Go(s.number(), way)
			if got != e {
				t.Fatal(s, way, z, got, e)
			}
			hold(t, "Go "+way, z, want)
		}
	}
}

// P4.2: each letter that is none of the four is ErrForm.
func TestGoKnowsFourLetters(t *testing.T) {
	for b := range 256 {
		z, e := Go(5+5i, string([]byte{'r', byte(b)}))
		known := strings.IndexByte("rldu", byte(b)) >= 0
		if known != (e == api.OK) || !known && (e != api.ErrForm || z != 0) {
			t.Fatal(b, z, e)
		}
	}
}

// P4.2: a way may be long, and lead across the whole room, but not beyond it.
func TestGoAcrossTheRoom(t *testing.T) {
	z, e := Go(complex(-room, 0), strings.Repeat("r", 2*room))
	if e != api.OK {
		t.Fatal(e)
	}
	hold(t, "Go", z, spot{room, 0})
	if z, e = Go(complex(-room, 0), strings.Repeat("r", 2*room+1)); e != api.ErrRange || z != 0 {
		t.Fatal(z, e)
	}
}

// P4.2: from no point there is no way, whatever the letters; noughts below nought are told as noughts.
func TestGoFromOtherNumbers(t *testing.T) {
	for _, z := range strange() {
		for _, way := range []string{"", "r", "x", "rldu"} {
			if got, e := Go(z, way); e != api.ErrArg || got != 0 || signed(got) {
				t.Fatal(z, way, got, e)
			}
		}
	}
	for _, way := range []string{"", "rl", "lr", "du", "ud", "rldu"} {
		for _, from := range []complex128{0, complex(below(), below()), 1, -1, 1i, -1i} {
			z, e := Go(from, way)
			x, y, _ := Parts(from)
			if e != api.OK {
				t.Fatal(way, e)
			}
			hold(t, "Go "+way, z, spot{x, y})
		}
	}
}

// told is the way that is to be told, letter by letter.
func told(a, b spot) (string, api.Errno) {
	var l []byte
	for len(l) <= 64 && a != b {
		switch {
		case a.x < b.x:
			l, a.x = append(l, 'r'), a.x+1
		case a.x > b.x:
			l, a.x = append(l, 'l'), a.x-1
		case a.y < b.y:
			l, a.y = append(l, 'd'), a.y+1
		default:
			l, a.y = append(l, 'u'), a.y-1
		}
	}
	if len(l) > 64 {
		return "", api.ErrRange
	}
	return string(l), api.OK
}

// P4.2: the way has no letter too many, r or l ahead of d or u; 64 letters are the most.
func TestWay(t *testing.T) {
	l := append(spots(), spot{65, 0}, spot{0, 65}, spot{room - 64, room}, spot{room, room - 65}, spot{32, -32}, spot{-40, 24}, spot{40, -25})
	long, short := 0, 0
	for _, a := range l {
		for _, b := range l {
			want, e := told(a, b)
			got, err := Way(a.number(), b.number())
			if got != want || err != e {
				t.Fatal(a, b, got, err, want, e)
			}
			if e == api.OK {
				short++
			} else {
				long++
			}
		}
	}
	if long < 1000 || short < 1000 {
		t.Fatal(long, short)
	}
}

// P4.2: ways of about 64 letters in each direction.
func TestWaysOf64Letters(t *testing.T) {
	for x := -66; x <= 66; x++ {
		for y := -66; y <= 66; y++ {
			a, b := spot{100, -7}, spot{100 + x, y - 7}
			want, e := told(a, b)
			if got, err := Way(a.number(), b.number()); got != want || err != e {
				t.Fatal(x, y, got, err, want, e)
			}
		}
	}
}

// P4.2: both are to be points, ahead of how long the way is.
func TestWayOfOtherNumbers(t *testing.T) {
	for _, z := range strange() {
		for _, s := range []complex128{0, 1, complex(room, -room), z} {
			for _, pair := range [][2]complex128{{z, s}, {s, z}} {
				if got, e := Way(pair[0], pair[1]); got != "" || e != api.ErrArg {
					t.Fatal(pair, got, e)
				}
			}
		}
	}
	if got, e := Way(complex(below(), below()), 1+1i); got != "rd" || e != api.OK {
		t.Fatal(got, e)
	}
}

// P4.2: a point's text; empty of no point.
func TestText(t *testing.T) {
	for _, c := range []struct {
		z    complex128
		want string
	}{
		{0, "0+0i"}, {complex(below(), below()), "0+0i"}, {complex(0, below()), "0+0i"}, {2 + 1i, "2+1i"}, {complex(-1, 2), "-1+2i"},
		{complex(3, -4), "3-4i"}, {complex(0, -1), "0-1i"}, {complex(-10, -100), "-10-100i"},
		{complex(room, -room), "1048576-1048576i"}, {complex(-room, room), "-1048576+1048576i"},
	} {
		if got := Text(c.z); got != c.want {
			t.Fatal(c, got)
		}
	}
	for _, z := range strange() {
		if got := Text(z); got != "" {
			t.Fatal(z, got)
		}
	}
}

// P4.2: a text tells one point: its parts read again are the point's.
func TestTextTellsItsPoint(t *testing.T) {
	for _, s := range spots() {
		text := Text(s.number())
		cut := strings.LastIndexAny(text, "+-")
		if cut < 1 || !strings.HasSuffix(text, "i") {
			t.Fatal(s, text)
		}
		x, y := text[:cut], strings.TrimPrefix(strings.TrimSuffix(text[cut:], "i"), "+")
		if x != strconv.Itoa(s.x) || y != strconv.Itoa(s.y) {
			t.Fatal(s, text)
		}
	}
}

// P4.3: a way back is as long as the way there, and leads back.
func TestAWayBackIsAsLong(t *testing.T) {
	for x := -33; x <= 33; x++ {
		for y := -31; y <= 31; y++ {
			a, b := spot{room - 40, 40 - room}, spot{room - 40 + x, 40 - room + y}
			there, e := Way(a.number(), b.number())
			back, f := Way(b.number(), a.number())
			if e != api.OK || f != api.OK || len(there) != len(back) {
				t.Fatal(x, y, there, e, back, f)
			}
			z, _ := Go(a.number(), there)
			hold(t, "there", z, b)
			z, _ = Go(z, back)
			hold(t, "back", z, a)
		}
	}
}

// P4.3: turned four times a point is as it was.
func TestFourTurns(t *testing.T) {
	for _, s := range spots() {
		hold(t, "four at once", Turn(s.number(), 4), s)
		z := s.number()
		for range 4 {
			z = Turn(z, 1)
		}
		hold(t, "four times", z, s)
		hold(t, "there and back", Turn(Turn(s.number(), 7), -7), s)
	}
}

// P4.3: the Norm of a product is that of the Norms.
func TestNormOfAProduct(t *testing.T) {
	many := 0
	for _, a := range spots() {
		for _, b := range spots() {
			z, ok := Times(a.number(), b.number())
			if !ok {
				continue
			}
			many++
			if Norm(z) != Norm(a.number())*Norm(b.number()) {
				t.Fatal(a, b, z)
			}
		}
	}
	if many < 1000 {
		t.Fatal(many)
	}
}
