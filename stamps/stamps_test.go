package stamps

import (
	"math"
	"slices"
	"strings"
	"testing"

	"kevel/api"
)

// most is how many threads a board has at most, and how many digits a row.
const most = 8

// odd are numbers far off, of which some are small ones with fewer bits.
func odd() []int {
	return []int{-1, -2, -3, -8, 9, 10, 16, 48, 255, 256, 257, -256, 1 << 16, 1 << 32, 1<<32 + 1, 1<<32 + 2, -1 << 32, 1 << 62, math.MaxInt, math.MaxInt - 1, math.MinInt, math.MinInt + 1, math.MinInt + 2}
}

// spoilers are numbers that are no digits.
func spoilers() []int { return append(odd(), 3, 4, 5, 6) }

// row is the row of a text of digits.
func row(s string) []int {
	l := make([]int, len(s))
	for i := range s {
		l[i] = strings.IndexByte("012", s[i])
	}
	return l
}

// told is a row's text of digits.
func told(l []int) string {
	b := make([]byte, len(l))
	for i, d := range l {
		b[i] = "012"[d]
	}
	return string(b)
}

// board are the rows of texts, with blanks between.
func board(s string) [][]int {
	var b [][]int
	for _, w := range strings.Split(s, " ") {
		b = append(b, row(w))
	}
	return b
}

// texts are the texts of rows.
func texts(b [][]int) []string {
	l := make([]string, len(b))
	for i, r := range b {
		l[i] = told(r)
	}
	return l
}

// rowsOf are the rows of texts.
func rowsOf(l []string) [][]int {
	b := make([][]int, len(l))
	for i, s := range l {
		b[i] = row(s)
	}
	return b
}

// words are all texts of k digits.
func words(k int) []string {
	l := []string{""}
	for range k {
		var longer []string
		for _, s := range l {
			longer = append(longer, s+"0", s+"1", s+"2")
		}
		l = longer
	}
	return l
}

// lists are all lists of many of the texts of k digits.
func lists(many, k int) [][]string {
	if many == 0 {
		return [][]string{nil}
	}
	var l [][]string
	for _, front := range lists(many-1, k) {
		for _, s := range words(k) {
			l = append(l, append(slices.Clone(front), s))
		}
	}
	return l
}

// dice are numbers that follow on one another by a rule, the same ones each time.
type dice uint64

// roll is a number below n.
func (d *dice) roll(n int) int {
	*d = *d*6364136223846793005 + 1442695040888963407
	return int(uint64(*d)>>33) % n
}

// near is a text of k digits whose first ones are mostly those of another text, so that many are alike in front.
func (d *dice) near(s string, k int) string {
	b := []byte(s)
	for i := range k {
		if d.roll(k) == 0 {
			for j := i; j < k; j++ {
				b[j] = "012"[d.roll(3)]
			}
			break
		}
	}
	return string(b)
}

// heap is many texts of k digits that have a lot in common.
func (d *dice) heap(many, k int) []string {
	base := d.near(strings.Repeat("0", k), k)
	l := make([]string, many)
	for i := range l {
		l[i] = d.near(base, k)
		if i > 0 && d.roll(3) == 0 {
			l[i] = l[d.roll(i)]
		}
	}
	return l
}

// heaps are lists of texts of k digits, of up to 10 texts.
func heaps(k, many int) [][]string {
	d := dice(k)
	l := make([][]string, many)
	for i := range l {
		l[i] = d.heap(d.roll(11), k)
	}
	return l
}

// boards are texts of boards: all of n threads up to 3, some of more.
func boards(n int) [][]string {
	if n <= 3 {
		return lists(n, n-1)
	}
	d := dice(n)
	l := make([][]string, 1500)
	for i := range l {
		l[i] = d.heap(n, n-1)
	}
	return l
}

// beaten is the digit that another one beats.
func beaten(d byte) byte { return map[byte]byte{'1': '0', '2': '1', '0': '2'}[d] }

// above is whether a text dominates another one, told by their first place that is unlike.
func above(a, b string) bool {
	for a != "" && a[0] == b[0] {
		a, b = a[1:], b[1:]
	}
	return a != "" && beaten(a[0]) == b[0]
}

// fresh is the new stamp over texts, of k digits, word by word as the chapter tells it.
func fresh(l []string, k int) string {
	if len(l) == 0 || k == 0 {
		return strings.Repeat("0", k)
	}
	g := l[0]
	for _, s := range l[1:] {
		if above(s, g) {
			g = s
		}
	}
	d := g[:1]
	var rest []string
	for _, s := range l {
		if strings.HasPrefix(s, d) {
			rest = append(rest, s[1:])
		}
	}
	if len(rest) < k {
		return d + fresh(rest, k-1)
	}
	next := map[string]string{"0": "1", "1": "2", "2": "0"}
	return next[d] + strings.Repeat("0", k-1)
}

// without are all of a list but the one at a place.
func without[T any](l []T, i int) []T { return slices.Delete(slices.Clone(l), i, i+1) }

// highest is the first one that dominates all others; -1, if there is none.
func highest(l []string) int {
	for i := range l {
		if !slices.ContainsFunc(without(l, i), func(s string) bool { return !above(l[i], s) }) {
			return i
		}
	}
	return -1
}

// spoiled are lists that are no boards: of no threads, of too many, with a row too long or too short, with what is no digit.
func spoiled() [][][]int {
	l := [][][]int{nil, {}, {{0}}, {{0, 0}}, {{}, {}}, {nil, nil}, {{0}, {}}, {{}, {0}}, {{0, 0}, {0, 0}}, make([][]int, most), make([][]int, 1<<16)}
	for n := 9; n <= 18; n++ {
		l = append(l, rowsOf(slices.Repeat([]string{strings.Repeat("0", n-1)}, n)))
	}
	for _, long := range []int{7, 8} {
		l = append(l, rowsOf(slices.Repeat([]string{strings.Repeat("0", long)}, 9)), rowsOf(slices.Repeat([]string{strings.Repeat("0", long)}, 257)))
	}
	for n := 1; n <= most; n++ {
		for i := range n {
			for _, long := range []int{n - 2, n, n + 1, 1 << 16} {
				b, _ := New(n)
				b[i] = make([]int, max(long, 0))
				if long >= 0 {
					l = append(l, b)
				}
			}
			for at := range n - 1 {
				for _, x := range spoilers() {
					b, _ := New(n)
					b[i][at] = x
					l = append(l, b)
				}
			}
		}
	}
	return l
}

// cut are the rows, each with memory behind it, and the list too, filled with what is no row.
func cut(b [][]int) [][]int {
	l := make([][]int, len(b), len(b)+3)
	for i, r := range b {
		long := append(slices.Clone(r), 7, 7, 7)
		l[i] = long[:len(r)]
	}
	for i := range 3 {
		l[:len(b)+3][len(b)+i] = []int{7}
	}
	return l
}

// copied is a copy of a list of rows, each with all of its memory.
func copied(b [][]int) [][]int {
	l := make([][]int, cap(b))
	for i, r := range b[:cap(b)] {
		l[i] = slices.Clone(r[:cap(r)])
	}
	return l
}

// kept is whether a list of rows has what its copy has, in all of its memory.
func kept(b, c [][]int) bool {
	return slices.EqualFunc(b[:cap(b)], c, func(r, s []int) bool { return slices.Equal(r[:cap(r)], s) })
}

// P7.1: ErrRange, unless n is from 1 to 8.
func TestNewRange(t *testing.T) {
	for _, n := range append(odd(), 0) {
		if b, e := New(n); len(b) != 0 || e != api.ErrRange {
			t.Fatal(n, b, e)
		}
	}
}

// P7.1: a board of n threads whose stamps all are digits 0.
func TestNew(t *testing.T) {
	for n := 1; n <= most; n++ {
		b, e := New(n)
		if e != api.OK || len(b) != n {
			t.Fatal(n, b, e)
		}
		for i := range b {
			if len(b[i]) != n-1 || strings.Trim(told(b[i]), "0") != "" {
				t.Fatal(n, b)
			}
		}
	}
}

// P7.1, R5: a board, and each of its rows, is new memory.
func TestNewMemory(t *testing.T) {
	for n := 2; n <= most; n++ {
		for i := range n {
			b, _ := New(n)
			for j := range b[i] {
				b[i][j] = 2
			}
			for j := range b {
				if j != i && strings.Trim(told(b[j]), "0") != "" {
					t.Fatal(n, i, b)
				}
			}
			if c, _ := New(n); strings.Trim(told(c[i]), "0") != "" {
				t.Fatal(n, i, c)
			}
		}
	}
}

// P7.1: boards have from 1 to 8 threads, each with a row of n - 1 digits.
func TestFine(t *testing.T) {
	if !Fine([][]int{nil}) || !Fine([][]int{{}}) {
		t.Fatal("a board of one thread")
	}
	for n := 1; n <= most; n++ {
		for _, l := range boards(n) {
			if !Fine(rowsOf(l)) || !Fine(cut(rowsOf(l))) {
				t.Fatal(l)
			}
		}
	}
	for _, b := range spoiled() {
		if Fine(b) {
			t.Fatal(b)
		}
	}
}

// P7.1: new stamps that are worked out by hand.
func TestOverExamples(t *testing.T) {
	for _, x := range []struct {
		rows string
		k    int
		want string
	}{
		{"0", 1, "1"},
		{"1", 1, "2"},
		{"2", 1, "0"},
		{"0 1 2", 1, "0"},
		{"1 0 2", 1, "0"},
		{"0 2 1", 1, "2"},
		{"00 00", 2, "10"},
		{"00 10", 2, "11"},
		{"10 11", 2, "20"},
		{"10 00 11", 2, "20"},
		{"11 20", 2, "21"},
		{"20 00", 2, "01"},
		{"00", 2, "01"},
		{"22", 2, "20"},
		{"000 000 000", 3, "100"},
		{"000 000 100", 3, "101"},
		{"000 100 101", 3, "110"},
		{"100 101 110", 3, "200"},
		{"000 002", 3, "010"},
		{"12 10 02", 2, "20"},
	} {
		if got := Over(board(x.rows), x.k); told(got) != x.want {
			t.Fatal(x, got)
		}
	}
}

// P7.1: of no rows, or of no digits, k digits 0.
func TestOverNone(t *testing.T) {
	for k := range most + 1 {
		for _, l := range [][][]int{nil, {}} {
			if got := Over(l, k); len(got) != k || strings.Trim(told(got), "0") != "" {
				t.Fatal(k, got)
			}
		}
	}
	for _, l := range [][][]int{{nil}, {{}}, {nil, {}, nil}, make([][]int, 100)} {
		if got := Over(l, 0); len(got) != 0 {
			t.Fatal(l, got)
		}
	}
}

// P7.1: the new stamp over rows, of all short lists, and of some long ones.
func TestOver(t *testing.T) {
	var l [][]string
	for k, many := range []int{3, 7, 4, 3} {
		for n := range many + 1 {
			l = append(l, lists(n, k)...)
		}
		checkOver(t, l, k)
		l = nil
	}
	for k := 1; k <= most; k++ {
		checkOver(t, heaps(k, 3000), k)
	}
}

// checkOver holds new stamps over lists of texts of k digits against those that the chapter tells.
func checkOver(t *testing.T, l [][]string, k int) {
	t.Helper()
	for _, s := range l {
		if got := Over(rowsOf(s), k); len(got) != k || told(got) != fresh(s, k) {
			t.Fatal(s, k, got)
		}
	}
}

// P7.1: rows in any number, each of 8 digits.
func TestOverMany(t *testing.T) {
	for _, many := range []int{7, 8, 9, 255, 256, 257, 5000} {
		l := slices.Repeat([]string{"00000001", "00000000"}, many)
		if got := Over(rowsOf(l), most); told(got) != "10000000" {
			t.Fatal(many, got)
		}
	}
}

// P7.1: none, if k is not from 0 to 8, or if one is no row of k digits.
func TestOverWrong(t *testing.T) {
	for _, k := range odd() {
		for _, l := range [][][]int{nil, {}, {nil}, {{0}}, {make([]int, max(0, min(k, 1000)))}} {
			if got := Over(l, k); len(got) != 0 {
				t.Fatal(l, k, got)
			}
		}
	}
	for k := range most + 1 {
		for many := 1; many <= 4; many++ {
			for i := range many {
				checkWrong(t, k, many, i)
			}
		}
	}
}

// checkWrong spoils one of many rows of k digits in each way, and asks for new stamps over them.
func checkWrong(t *testing.T, k, many, i int) {
	t.Helper()
	l := rowsOf(slices.Repeat([]string{strings.Repeat("0", k)}, many))
	for long := range most + 3 {
		l[i] = make([]int, long)
		if got := Over(l, k); long != k && len(got) != 0 {
			t.Fatal(l, k, got)
		}
	}
	for at := range k {
		for _, x := range spoilers() {
			l[i] = make([]int, k)
			l[i][at] = x
			if got := Over(l, k); len(got) != 0 {
				t.Fatal(l, k, got)
			}
		}
	}
}

// P7.1, R5: a new stamp is new memory, and what it is asked over stays, and is not read behind its length.
func TestOverMemory(t *testing.T) {
	for k := 1; k <= most; k++ {
		for _, s := range heaps(k, 200) {
			l := cut(rowsOf(s))
			before := copied(l)
			got := Over(l, k)
			if told(got) != fresh(s, k) {
				t.Fatal(s, got)
			}
			for i := range got {
				got[i] = 9
			}
			if !kept(l, before) || told(Over(l, k)) != fresh(s, k) {
				t.Fatal(s, l)
			}
		}
	}
}

// P7.1: a thread's stamp is the new one over those of all others, in order; the others' stay.
func TestTake(t *testing.T) {
	for n := 1; n <= most; n++ {
		for _, l := range boards(n) {
			for me := range n {
				want := slices.Clone(l)
				want[me] = fresh(without(l, me), n-1)
				if b, e := Take(rowsOf(l), me); e != api.OK || !slices.Equal(texts(b), want) {
					t.Fatal(l, me, b, e)
				}
			}
		}
	}
}

// P7.1: the order of the others counts, where stamps dominate one another in a ring.
func TestTakeOrder(t *testing.T) {
	for _, x := range []struct {
		b    string
		me   int
		want string
	}{
		{"000 100 200 000", 0, "001"},
		{"000 200 100 000", 0, "001"},
		{"000 100 000 200", 0, "201"},
		{"000 200 000 100", 0, "101"},
		{"100 000 222 200", 2, "201"},
		{"200 000 100 222", 3, "101"},
	} {
		if b, e := Take(board(x.b), x.me); e != api.OK || told(b[x.me]) != x.want {
			t.Fatal(x, b, e)
		}
	}
}

// P7.1: ErrArg, if it is no board, whatever me is; else ErrRange, if it has no thread me.
func TestTakeErrors(t *testing.T) {
	for _, b := range spoiled() {
		for _, me := range []int{0, 1, len(b) - 1, len(b), -1, math.MaxInt, math.MinInt} {
			if c, e := Take(b, me); len(c) != 0 || e != api.ErrArg {
				t.Fatal(b, me, c, e)
			}
		}
	}
	for n := 1; n <= most; n++ {
		b, _ := New(n)
		for _, me := range append(odd(), n, n+1) {
			if c, e := Take(b, me); len(c) != 0 || e != api.ErrRange {
				t.Fatal(b, me, c, e)
			}
		}
	}
}

// P7.1, R5: the board ahead stays, the one behind is new memory, row by row.
func TestTakeMemory(t *testing.T) {
	for n := 1; n <= most; n++ {
		for _, l := range boards(n)[:min(len(boards(n)), 60)] {
			for me := range n {
				b := cut(rowsOf(l))
				before := copied(b)
				c, _ := Take(b, me)
				for i := range c {
					rest := texts(without(c, i))
					for j := range c[i] {
						c[i][j] = 1
					}
					c[i] = append(c[i], 1)
					if !slices.Equal(texts(without(c, i)), rest) {
						t.Fatal(l, me, i, c)
					}
				}
				_ = append(c, []int{1})
				if !kept(b, before) {
					t.Fatal(l, me, b)
				}
			}
		}
	}
}

// P7.2: the thread whose stamp dominates all others'; -1, if there is none.
func TestLast(t *testing.T) {
	none, some := 0, 0
	for n := 1; n <= most; n++ {
		for _, l := range boards(n) {
			b := cut(rowsOf(l))
			before := copied(b)
			got := Last(b)
			if got != highest(l) || !kept(b, before) {
				t.Fatal(l, got)
			}
			if got == -1 {
				none++
			} else {
				some++
			}
		}
	}
	if none == 0 || some == 0 {
		t.Fatal(none, some)
	}
}

// P7.2: last ones that are worked out by hand, each place of a board among them.
func TestLastExamples(t *testing.T) {
	for _, x := range []struct {
		b    [][]int
		want int
	}{
		{[][]int{nil}, 0},
		{[][]int{{}}, 0},
		{board("0 0"), -1},
		{board("0 1"), 1},
		{board("0 2"), 0},
		{board("00 10 20"), -1},
		{board("10 10 00"), -1},
		{board("01 00 00"), 0},
		{board("01 00 10"), 2},
	} {
		if got := Last(x.b); got != x.want {
			t.Fatal(x, got)
		}
	}
	for n := 2; n <= most; n++ {
		for i := range n {
			b, _ := New(n)
			b[i][n-2] = 1
			if got := Last(b); got != i {
				t.Fatal(b, got)
			}
			b[i][n-2] = 2
			if got := Last(b); n > 2 && got != -1 {
				t.Fatal(b, got)
			}
		}
	}
}

// P7.2: -1, if it is no board.
func TestLastWrong(t *testing.T) {
	for _, b := range spoiled() {
		if got := Last(b); got != -1 {
			t.Fatal(b, got)
		}
	}
	// Each of these would have a last one, if it were a board.
	for _, s := range []string{"1", "1 0 0", "10 00", "100 000", "100 000 000", "000000001 000000000"} {
		if got := Last(board(s)); got != -1 {
			t.Fatal(s, got)
		}
	}
}

// P7.2: does a's stamp dominate c's?
func TestBehind(t *testing.T) {
	for n := 1; n <= most; n++ {
		for _, l := range boards(n) {
			b := cut(rowsOf(l))
			before := copied(b)
			for a := range n {
				for c := range n {
					if got := Behind(b, a, c); got != above(l[a], l[c]) {
						t.Fatal(l, a, c, got)
					}
				}
			}
			if !kept(b, before) {
				t.Fatal(l, b)
			}
		}
	}
}

// P7.2: false, if it is no board, or one is no thread.
func TestBehindWrong(t *testing.T) {
	for _, b := range spoiled() {
		for a := range min(len(b), most+1) {
			for c := range min(len(b), most+1) {
				if Behind(b, a, c) {
					t.Fatal(b, a, c)
				}
			}
		}
	}
	for n := 1; n <= most; n++ {
		for _, l := range boards(n)[:min(len(boards(n)), 20)] {
			b := cut(rowsOf(l))
			for _, x := range append(odd(), n, n+1, n+2) {
				for y := range n {
					if Behind(b, x, y) || Behind(b, y, x) || Behind(b, x, x) {
						t.Fatal(l, x, y)
					}
				}
			}
		}
	}
	// The stamp 1 dominates 0, but these are no boards.
	for _, s := range []string{"1 0 0", "10 00", "1 0 3"} {
		if Behind(board(s), 0, 1) {
			t.Fatal(s)
		}
	}
}

// turn is a board, and who has taken stamps of it, the last one last.
type turn struct {
	board [][]int
	came  string
}

// next is what comes of it when a thread takes a stamp.
func (x turn) next(t *testing.T, me int) turn {
	t.Helper()
	b, e := Take(x.board, me)
	if e != api.OK || !Fine(b) {
		t.Fatal(x, me, b, e)
	}
	name := string("01234567"[me])
	return turn{b, strings.ReplaceAll(x.came, name, "") + name}
}

// check holds a board against who has taken stamps.
func (x turn) check(t *testing.T) {
	t.Helper()
	for a := range x.board {
		for c := range x.board {
			// Who has taken none is found at -1, ahead of all.
			late := strings.IndexByte(x.came, "01234567"[a]) > strings.IndexByte(x.came, "01234567"[c])
			if Behind(x.board, a, c) != late {
				t.Fatal(x, a, c)
			}
		}
	}
	if x.came != "" && Last(x.board) != int(x.came[len(x.came)-1]-'0') {
		t.Fatal(x, Last(x.board))
	}
}

// P7.3: in whatever order up to three threads take stamps, all that may come of it.
func TestTurnsAll(t *testing.T) {
	for n := 1; n <= 3; n++ {
		b, _ := New(n)
		todo := []turn{{b, ""}}
		seen := map[string]int{}
		for len(todo) > 0 {
			x := todo[0]
			todo = todo[1:]
			key := strings.Join(texts(x.board), " ") + "/" + x.came
			if seen[key]++; seen[key] > 1 {
				continue
			}
			x.check(t)
			for me := range n {
				todo = append(todo, x.next(t, me))
			}
		}
		if want := []int{2, 9, 238}[n-1]; len(seen) != want {
			t.Fatal(n, len(seen))
		}
	}
}

// P7.3: of each number of threads, stamps taken often: in turns, and as it comes.
func TestTurnsLong(t *testing.T) {
	for n := 1; n <= most; n++ {
		for _, span := range []int{1, 2, 3, n} {
			d := dice(n*16 + span)
			b, _ := New(n)
			x := turn{b, ""}
			for i := range 600 {
				// Those who take stamps come from a few threads for a while, and then from others.
				me := (i/50 + d.roll(span)) % n
				if i >= 500 {
					me = i * span % n
				}
				x = x.next(t, me)
				x.check(t)
			}
		}
	}
}

// P7.3: a board that was left at one place goes on from there in every way.
func TestTurnsFork(t *testing.T) {
	for n := 4; n <= most; n++ {
		d := dice(n)
		b, _ := New(n)
		x := turn{b, ""}
		for range 40 {
			for me := range n {
				y := x.next(t, me)
				y.check(t)
				y.next(t, d.roll(n)).check(t)
			}
			x.check(t)
			x = x.next(t, d.roll(n))
		}
	}
}

// Example 1: of two threads, 0 takes 1, 1 takes 2, 0 takes 0.
func TestExample(t *testing.T) {
	b, _ := New(2)
	for i, want := range []string{"1 0", "1 2", "0 2", "0 1"} {
		c, e := Take(b, i%2)
		if e != api.OK || strings.Join(texts(c), " ") != want || Last(c) != i%2 {
			t.Fatal(i, c, e)
		}
		b = c
	}
}
