package wire

import (
	"bytes"
	"math"
	"math/big"
	"slices"
	"strconv"
	"strings"
	"testing"

	"kevel/api"
)

const greatest = 1<<30 - 1

// edges are numbers at, and beside, each count of bytes, the greatest number, and numbers that are none.
func edges() []int {
	l := []int{math.MinInt, math.MinInt + 1, -300, -129, 5, 100, 300, 1000, 65537, 123456789, math.MaxInt - 1, math.MaxInt}
	for _, n := range []int{0, 1 << 7, 1 << 8, 1 << 14, 1 << 21, 1 << 28, 1 << 30, 1 << 31, 1 << 32, 1 << 35, api.MaxWord, 1 << 62} {
		for d := -2; d <= 2; d++ {
			l = append(l, n+d)
		}
	}
	return l
}

// nearest is told one comparison at a time, so that it shares nothing with what it is held against.
func nearest(n int) int {
	if n < 0 {
		return 0
	}
	if n > greatest {
		return greatest
	}
	return n
}

// wanted is a number's bytes, told by its text of noughts and ones.
func wanted(n int) []byte {
	text := strconv.FormatInt(int64(nearest(n)), 2)
	text = strings.Repeat("0", (7-len(text)%7)%7) + text
	var l []byte
	for len(text) > 0 {
		front, cut := "1", len(text)-7
		if cut == 0 {
			front = "0"
		}
		x, _ := strconv.ParseUint(front+text[cut:], 2, 8)
		l = append(l, byte(x))
		text = text[:cut]
	}
	return l
}

// told is what is to be read at the front of bytes: the number, how many bytes are left, the error.
func told(b []byte, most int) (int, int, api.Errno) {
	last := slices.IndexFunc(b, func(x byte) bool { return x < 128 })
	if last < 0 && len(b) <= 5 {
		return 0, 0, api.ErrEnd
	}
	if last < 0 || last > 4 {
		return 0, 0, api.ErrForm
	}
	if last > 0 && b[last] == 0 {
		return 0, 0, api.ErrForm
	}
	n := new(big.Int)
	for i := last; i >= 0; i-- {
		n.Mul(n, big.NewInt(128))
		n.Add(n, big.NewInt(int64(b[i]&127)))
	}
	if n.Cmp(big.NewInt(int64(most))) > 0 || n.Cmp(big.NewInt(greatest)) > 0 {
		return 0, 0, api.ErrRange
	}
	return int(n.Int64()), len(b) - last - 1, api.OK
}

// P3.1: a number's bytes.
func TestPutTellsANumbersBytes(t *testing.T) {
	for _, c := range []struct {
		n    int
		want []byte
	}{
		{0, []byte{0}}, {1, []byte{1}}, {127, []byte{127}}, {128, []byte{128, 1}}, {129, []byte{129, 1}}, {255, []byte{255, 1}},
		{256, []byte{128, 2}}, {300, []byte{172, 2}}, {16383, []byte{255, 127}}, {16384, []byte{128, 128, 1}},
		{1<<21 - 1, []byte{255, 255, 127}}, {1 << 21, []byte{128, 128, 128, 1}}, {1<<28 - 1, []byte{255, 255, 255, 127}},
		{1 << 28, []byte{128, 128, 128, 128, 1}}, {1<<30 - 2, []byte{254, 255, 255, 255, 3}}, {1<<30 - 1, []byte{255, 255, 255, 255, 3}},
		// What is no such number counts as the nearest one.
		{1 << 30, []byte{255, 255, 255, 255, 3}}, {1 << 32, []byte{255, 255, 255, 255, 3}}, {math.MaxInt, []byte{255, 255, 255, 255, 3}},
		{-1, []byte{0}}, {-128, []byte{0}}, {-1 << 32, []byte{0}}, {math.MinInt, []byte{0}},
	} {
		if got := Put(nil, c.n); !bytes.Equal(got, c.want) {
			t.Errorf("Put(nil, %d) = %v, want %v", c.n, got, c.want)
		}
	}
	for _, n := range edges() {
		if got := Put(nil, n); !bytes.Equal(got, wanted(n)) {
			t.Errorf("Put(nil, %d) = %v, want %v", n, got, wanted(n))
		}
	}
	for n := range 1 << 16 {
		if got := Put(nil, n); !bytes.Equal(got, wanted(n)) {
			t.Fatalf("Put(nil, %d) = %v, want %v", n, got, wanted(n))
		}
	}
}

// P3.1: the numbers stand behind the bytes, in their order.
func TestPutPutsBehind(t *testing.T) {
	for _, c := range []struct {
		b    []byte
		l    []int
		want []byte
	}{
		{nil, nil, nil}, {[]byte{}, []int{}, nil}, {[]byte{9, 0, 255}, nil, []byte{9, 0, 255}},
		{nil, []int{1, 0, 300}, []byte{1, 0, 172, 2}}, {[]byte{}, []int{0}, []byte{0}},
		{[]byte{172}, []int{300, 2, -5, 128}, []byte{172, 172, 2, 2, 0, 128, 1}},
		{[]byte{128, 128}, []int{math.MaxInt, 0}, []byte{128, 128, 255, 255, 255, 255, 3, 0}},
	} {
		if got := Put(c.b, c.l...); !bytes.Equal(got, c.want) {
			t.Errorf("Put(%v, %v) = %v, want %v", c.b, c.l, got, c.want)
		}
	}
	if got := Put(nil, 1, 2, 3); !bytes.Equal(got, []byte{1, 2, 3}) {
		t.Errorf("Put of numbers one by one = %v", got)
	}
	want := []byte{77, 200}
	for _, n := range edges() {
		want = append(want, wanted(n)...)
	}
	if got := Put([]byte{77, 200}, edges()...); !bytes.Equal(got, want) {
		t.Errorf("Put of all = %v, want %v", got, want)
	}
}

// P3.1, R5: the lists are left as they are, what lies behind them too, and the answer is new memory.
func TestPutLeavesTheLists(t *testing.T) {
	b, l := []byte{1, 2, 3, 4, 5, 6, 7, 8}, []int{-9, 300, 1 << 40, 6, 7}
	b0, l0 := bytes.Clone(b), slices.Clone(l)
	first, second := Put(b[:2], l[:3]...), Put(b[:2], 5)
	if !bytes.Equal(b, b0) || !slices.Equal(l, l0) {
		t.Errorf("the lists came to %v and %v", b, l)
	}
	b[0], second[1] = 99, 98
	if want := []byte{1, 2, 0, 172, 2, 255, 255, 255, 255, 3}; !bytes.Equal(first, want) {
		t.Errorf("the first answer came to %v, want %v", first, want)
	}
	if want := []byte{1, 98, 5}; !bytes.Equal(second, want) {
		t.Errorf("the second answer came to %v, want %v", second, want)
	}
	none := Put(b)
	none[3] = 50
	if b[3] != 4 {
		t.Error("of no numbers the bytes themselves were answered")
	}
}

// P3.2: numbers that are read.
func TestNumReadsNumbers(t *testing.T) {
	r := NewReader([]byte{172, 2, 0, 127, 255, 255, 255, 255, 3, 128, 1, 9})
	if r.Left() != 12 || r.Err() != api.OK {
		t.Fatalf("at the front: %d left, %v", r.Left(), r.Err())
	}
	for _, c := range []struct{ most, n, left int }{
		{300, 300, 10}, {0, 0, 9}, {127, 127, 8}, {greatest, greatest, 3}, {math.MaxInt, 128, 1}, {9, 9, 0},
	} {
		if n := r.Num(c.most); n != c.n || r.Left() != c.left || r.Err() != api.OK {
			t.Errorf("Num(%d) = %d, %d left, %v, want %d, %d left", c.most, n, r.Left(), r.Err(), c.n, c.left)
		}
	}
	if n := r.Num(math.MaxInt); n != 0 || r.Left() != 0 || r.Err() != api.ErrEnd {
		t.Errorf("behind the last byte: %d, %d left, %v", n, r.Left(), r.Err())
	}
}

// P3.2: the errors of Num, byte by byte.
func TestNumTellsErrors(t *testing.T) {
	for _, c := range []struct {
		b    []byte
		most int
		want api.Errno
	}{
		{nil, 5, api.ErrEnd}, {[]byte{}, 5, api.ErrEnd}, {nil, -1, api.ErrEnd}, {[]byte{128}, 5, api.ErrEnd}, {[]byte{255}, 5, api.ErrEnd},
		{[]byte{128, 128, 128, 128}, -1, api.ErrEnd}, {[]byte{255, 255, 255, 255, 255}, 5, api.ErrEnd},
		// At a sixth byte, whatever it is, and whatever is behind it.
		{[]byte{128, 128, 128, 128, 128, 0}, greatest, api.ErrForm}, {[]byte{128, 128, 128, 128, 128, 1}, greatest, api.ErrForm},
		{[]byte{255, 255, 255, 255, 255, 255}, 5, api.ErrForm}, {[]byte{128, 128, 128, 128, 128, 128, 128}, 5, api.ErrForm},
		{[]byte{128, 128, 128, 128, 128, 128, 128, 128, 128, 128, 1}, 5, api.ErrForm},
		// The last one is 0, and not the first.
		{[]byte{128, 0}, 5, api.ErrForm}, {[]byte{172, 0}, 5, api.ErrForm}, {[]byte{172, 130, 0}, 5, api.ErrForm},
		{[]byte{255, 255, 255, 255, 0}, greatest, api.ErrForm}, {[]byte{128, 0}, -1, api.ErrForm}, {[]byte{128, 0, 1}, 5, api.ErrForm},
		// The number is above most, or above 2^30 - 1.
		{[]byte{6}, 5, api.ErrRange}, {[]byte{0}, -1, api.ErrRange}, {[]byte{0}, math.MinInt, api.ErrRange}, {[]byte{1, 1}, 0, api.ErrRange},
		{[]byte{172, 2}, 299, api.ErrRange}, {[]byte{255, 255, 255, 255, 3}, greatest - 1, api.ErrRange},
		{[]byte{128, 128, 128, 128, 4}, greatest, api.ErrRange}, {[]byte{128, 128, 128, 128, 4}, math.MaxInt, api.ErrRange},
		{[]byte{128, 128, 128, 128, 16}, math.MaxInt, api.ErrRange}, {[]byte{255, 255, 255, 255, 127}, math.MaxInt, api.ErrRange},
		{[]byte{255, 255, 255, 255, 127}, 1 << 40, api.ErrRange},
		// No error.
		{[]byte{0}, 0, api.OK}, {[]byte{5}, 5, api.OK}, {[]byte{172, 2}, 300, api.OK}, {[]byte{255, 255, 255, 255, 3}, greatest, api.OK},
		{[]byte{0, 0}, 0, api.OK}, {[]byte{128, 128, 128, 128, 1}, math.MaxInt, api.OK},
	} {
		r := NewReader(c.b)
		n := r.Num(c.most)
		if r.Err() != c.want || (c.want != api.OK && (n != 0 || r.Left() != 0)) {
			t.Errorf("of %v up to %d came %d, %d left, %v, want %v", c.b, c.most, n, r.Left(), r.Err(), c.want)
		}
	}
}

// P3.2: of a number at most, and beside it.
func TestNumHoldsToMost(t *testing.T) {
	for _, n := range edges() {
		b := append(wanted(n), 7)
		for _, most := range append(edges(), nearest(n)-1, nearest(n), nearest(n)+1) {
			want, left, e := told(b, most)
			r := NewReader(b)
			if got := r.Num(most); got != want || r.Left() != left || r.Err() != e {
				t.Fatalf("of %v up to %d came %d, %d left, %v, want %d, %d left, %v", b, most, got, r.Left(), r.Err(), want, left, e)
			}
		}
	}
}

// P3.2: nothing is read behind the first error, which stays.
func TestNumReadsNothingBehindAnError(t *testing.T) {
	for _, c := range []struct {
		b    []byte
		most int
		want api.Errno
	}{{[]byte{6, 1, 2}, 5, api.ErrRange}, {[]byte{128, 0, 1, 2}, 5, api.ErrForm}, {[]byte{1, 128}, 5, api.ErrEnd}} {
		r := NewReader(c.b)
		for range c.b {
			r.Num(c.most)
		}
		for _, most := range []int{5, math.MaxInt, -1, 0} {
			if n := r.Num(most); n != 0 || r.Left() != 0 || r.Err() != c.want {
				t.Errorf("of %v, behind the error, came %d, %d left, %v, want %v", c.b, n, r.Left(), r.Err(), c.want)
			}
		}
		r.Fail(api.ErrMany)
		r.Fail(api.OK)
		if r.Err() != c.want || r.Left() != 0 {
			t.Errorf("of %v, failed behind the error, came %v, %d left", c.b, r.Err(), r.Left())
		}
	}
}

// P3.2: Fail.
func TestFailSetsTheFirstError(t *testing.T) {
	for _, e := range []api.Errno{api.ErrArg, api.ErrNil, api.ErrMany, api.ErrBusy, 13, 1000, -1, math.MinInt, math.MaxInt} {
		r := NewReader([]byte{1, 2, 3})
		r.Num(5)
		r.Fail(e)
		if r.Err() != e || r.Left() != 0 || r.Num(5) != 0 || r.Err() != e {
			t.Errorf("failed by %d it has %d, %d left", int(e), int(r.Err()), r.Left())
		}
		r.Fail(api.ErrForm)
		r.Fail(api.OK)
		if r.Err() != e {
			t.Errorf("failed by %d, and once more, it has %d", int(e), int(r.Err()))
		}
	}
	r := NewReader([]byte{1, 2, 3})
	r.Fail(api.OK)
	if r.Err() != api.OK || r.Left() != 3 || r.Num(5) != 1 {
		t.Errorf("failed by OK it has %v, %d left", r.Err(), r.Left())
	}
	r.Fail(api.OK)
	if r.Err() != api.OK || r.Left() != 2 {
		t.Errorf("failed by OK, further on, it has %v, %d left", r.Err(), r.Left())
	}
	r.Fail(api.ErrMany)
	if r.Err() != api.ErrMany || r.Left() != 0 {
		t.Errorf("failed by ErrMany it has %v, %d left", r.Err(), r.Left())
	}
}

// P3.2: of no bytes a Reader is there, and has no error till it is asked for a number.
func TestReaderOfNothing(t *testing.T) {
	for _, b := range [][]byte{nil, {}, make([]byte, 0, 4)} {
		r := NewReader(b)
		if r == nil || r.Left() != 0 || r.Err() != api.OK {
			t.Fatalf("of no bytes: %v", r)
		}
		if n := r.Num(5); n != 0 || r.Err() != api.ErrEnd {
			t.Errorf("of no bytes came %d, %v", n, r.Err())
		}
	}
}

// P3.2, R4, R5: the bytes are neither written nor kept, nor read behind their end, and no Reader hangs on another one.
func TestReaderLeavesTheBytes(t *testing.T) {
	b := []byte{172, 2, 9, 128, 1}
	before := bytes.Clone(b)
	r, other, short := NewReader(b), NewReader(b), NewReader(b[:4])
	if r.Num(300) != 300 || other.Left() != 5 {
		t.Error("a Reader hangs on another one")
	}
	if short.Num(300) != 300 || short.Num(9) != 9 || short.Num(128) != 0 || short.Err() != api.ErrEnd {
		t.Error("a Reader read behind the end")
	}
	other.Fail(api.ErrMany)
	if !bytes.Equal(b, before) {
		t.Errorf("the bytes came to %v", b)
	}
	for i := range b {
		b[i] = 0
	}
	if n, m := r.Num(9), r.Num(128); n != 9 || m != 128 || r.Err() != api.OK {
		t.Errorf("of bytes that were written later came %d, %d, %v", n, m, r.Err())
	}
}

// P3.3: a nil Reader.
func TestNilReader(t *testing.T) {
	var r *Reader
	for _, e := range []api.Errno{api.OK, api.ErrForm, -1} {
		for _, most := range []int{-1, 0, 5, math.MaxInt, math.MinInt} {
			if n := r.Num(most); n != 0 || r.Left() != 0 || r.Err() != api.ErrNil {
				t.Errorf("a nil Reader tells %d, %d left, %v", n, r.Left(), r.Err())
			}
		}
		r.Fail(e)
	}
	if r != nil || r.Num(0) != 0 || r.Left() != 0 || r.Err() != api.ErrNil {
		t.Error("a nil Reader was changed")
	}
}

// P3.4: what is put is read.
func TestWhatIsPutIsRead(t *testing.T) {
	l := edges()
	for n := range 1 << 15 {
		l = append(l, n*32771%(greatest+1), n)
	}
	r := NewReader(Put([]byte{1}, l...))
	if r.Num(1) != 1 {
		t.Error("the byte ahead is gone")
	}
	for _, n := range l {
		if got := r.Num(nearest(n)); got != nearest(n) || r.Err() != api.OK {
			t.Fatalf("of %d was read %d, %v", n, got, r.Err())
		}
	}
	if r.Left() != 0 || r.Err() != api.OK {
		t.Errorf("%d left, %v", r.Left(), r.Err())
	}
}

// reads reads a number, holds it against what is told, and against what is put of it.
func reads(t *testing.T, b []byte, most int) {
	t.Helper()
	want, left, e := told(b, most)
	r := NewReader(b)
	n := r.Num(most)
	if n != want || r.Left() != left || r.Err() != e {
		t.Fatalf("of %v up to %d came %d, %d left, %v, want %d, %d left, %v", b, most, n, r.Left(), r.Err(), want, left, e)
	}
	if e == api.OK && !bytes.Equal(Put(nil, n), b[:len(b)-left]) {
		t.Fatalf("%d was read of %v, and is put as %v", n, b[:len(b)-left], Put(nil, n))
	}
}

// P3.4: no other bytes are read as it: all of two bytes, and all of up to six out of those at the edges.
func TestNoOtherBytesAreRead(t *testing.T) {
	for x := range 1 << 16 {
		reads(t, []byte{byte(x), byte(x >> 8)}, math.MaxInt)
	}
	at := []byte{0, 1, 3, 4, 127, 128, 129, 255}
	level := [][]byte{nil}
	for range 6 {
		var next [][]byte
		for _, b := range level {
			for _, x := range at {
				longer := append(bytes.Clone(b), x)
				reads(t, longer, greatest)
				next = append(next, longer)
			}
		}
		level = next
	}
}
