package bank

import (
	"math"
	"slices"
	"testing"

	"kevel/api"
	"kevel/cell"
)

const (
	safe    = api.CellSafe
	regular = api.CellRegular
	atomic  = api.CellAtomic
	// word is the greatest of all values.
	word = 1 << 40
	// most is how many cells there may be.
	most = 32768
	// threads is how many threads there may be.
	threads = 8
)

// odd are numbers that are no thread, and no kind of accesses or cells: some have a small one's lower bits.
func odd() []int {
	return []int{math.MinInt, math.MinInt + 1, -1 << 32, -256, -255, -8, -3, -2, -1, 8, 9, 16, 255, 256, 257, 258, 259, 1 << 32, 1<<32 + 1, 1<<32 + 2, 1 << 62, math.MaxInt - 1, math.MaxInt}
}

// strip is many cells of a kind, from 0 to top.
func strip(many, kind, top int) api.Strip { return api.Strip{Many: many, Kind: kind, Top: top} }

// list are strips of all kinds, with empty ones, and ones of one cell, between the others.
func list() []api.Strip {
	return []api.Strip{strip(0, atomic, 5), strip(2, safe, 1), strip(1, atomic, 9), strip(0, safe, 0), strip(0, regular, word), strip(3, regular, 30), strip(1, safe, 0), strip(2, atomic, word), strip(1, safe, 9), strip(0, regular, 3)}
}

// each are the cells of strips that may be, each as a strip, told one by one.
func each(l []api.Strip) []api.Strip {
	var all []api.Strip
	for _, s := range l {
		for range s.Many {
			all = append(all, strip(1, s.Kind, s.Top))
		}
	}
	return all
}

// newBank is a bank of strips that may be.
func newBank(t *testing.T, l ...api.Strip) *Bank {
	t.Helper()
	b, e := New(l)
	if b == nil || e != api.OK {
		t.Fatal(l, b, e)
	}
	return b
}

// begin begins accesses, none of which may tell an error.
func begin(t *testing.T, b *Bank, thread int, a api.Access) {
	t.Helper()
	if e := b.Begin(thread, a); e != api.OK {
		t.Fatal(thread, a, e)
	}
}

// end ends an access, which may not tell an error, and is what it told.
func end(t *testing.T, b *Bank, thread, draw int) int {
	t.Helper()
	v, e := b.End(thread, draw)
	if e != api.OK {
		t.Fatal(thread, draw, v, e)
	}
	return v
}

// read is a read of a cell.
func read(n int) api.Access { return api.Access{Kind: api.AcRead, Cell: n} }

// write is a write of a cell.
func write(n, v int) api.Access { return api.Access{Kind: api.AcWrite, Cell: n, Val: v} }

// row is a bank told word by word: cells that stand apart, all made ahead, and where each thread is busy.
type row struct {
	cells []*cell.Cell
	used  []int
	doing map[int]int
}

func newRow(l []api.Strip) *row {
	r := &row{doing: map[int]int{}}
	for _, s := range each(l) {
		r.cells = append(r.cells, cell.New(s.Kind, s.Top))
	}
	return r
}

func (r *row) begin(t int, a api.Access) api.Errno {
	if a.Cell < 0 || a.Cell >= len(r.cells) {
		return api.ErrRange
	}
	if _, is := r.doing[t]; is {
		return api.ErrBusy
	}
	e := r.cells[a.Cell].Begin(t, a)
	if e == api.OK {
		r.doing[t] = a.Cell
		r.used = append(r.used, a.Cell)
	}
	return e
}

func (r *row) end(t, draw int) (int, api.Errno) {
	n, is := r.doing[t]
	if !is {
		return 0, api.ErrNone
	}
	delete(r.doing, t)
	return r.cells[n].End(t, draw)
}

func (r *row) value(n int) int {
	if n < 0 || n >= len(r.cells) {
		return 0
	}
	return r.cells[n].Value()
}

// same holds all that may be asked of a bank against what is told of it.
func (r *row) same(t *testing.T, b *Bank) {
	t.Helper()
	for _, n := range append(odd(), len(r.cells), len(r.cells)+1) {
		if v := b.Value(n); v != r.value(n) {
			t.Fatal("value", n, v, r.value(n))
		}
		want, wantIs := r.doing[n]
		if at, is := b.Busy(n); at != want || is != wantIs {
			t.Fatal("busy", n, at, is)
		}
	}
	for n, c := range r.cells {
		if v := b.Value(n); v != c.Value() {
			t.Fatal("value", n, v, c.Value())
		}
	}
	for n := range threads {
		want, wantIs := r.doing[n]
		if at, is := b.Busy(n); at != want || is != wantIs {
			t.Fatal("busy", n, at, is, want, wantIs)
		}
	}
	slices.Sort(r.used)
	r.used = slices.Compact(r.used)
	if l := b.Used(); !slices.Equal(l, r.used) {
		t.Fatal("used", l, r.used)
	}
	if b.Len() != len(r.cells) {
		t.Fatal("len", b.Len(), len(r.cells))
	}
}

// step is a call: of Begin, or, if it ends, of End with a draw.
type step struct {
	thread int
	access api.Access
	ends   bool
	draw   int
}

// hold does steps to a bank and to what is told of it, and holds all that they answer against one another.
func hold(t *testing.T, l []api.Strip, steps []step) {
	t.Helper()
	b, r := newBank(t, l...), newRow(l)
	for i, s := range steps {
		if s.ends {
			v, e := b.End(s.thread, s.draw)
			if want, wantE := r.end(s.thread, s.draw); v != want || e != wantE {
				t.Fatalf("%v: %d, %d in place of %d, %d", steps[:i+1], v, e, want, wantE)
			}
		} else if e, want := b.Begin(s.thread, s.access), r.begin(s.thread, s.access); e != want {
			t.Fatalf("%v: %d in place of %d", steps[:i+1], e, want)
		}
		r.same(t, b)
	}
}

// dice are numbers that follow on one another by a rule, the same ones each time.
type dice uint64

// roll is a number below n.
func (d *dice) roll(n int) int {
	*d = *d*6364136223846793005 + 1442695040888963407
	return int(uint64(*d)>>33) % n
}

// run are many steps of all threads, each of which begins and ends in turns, to the first ones of many cells.
func (d *dice) run(many, cells int) []step {
	l := make([]step, many)
	var busy [threads]bool
	for i := range l {
		t := d.roll(threads)
		a := api.Access{Kind: 1 + d.roll(2), Cell: d.roll(cells), Val: d.roll(40) - 4}
		l[i] = step{thread: t, access: a, ends: busy[t], draw: d.roll(60) - 20}
		busy[t] = !busy[t]
	}
	return l
}

// spoil makes some of many steps wrong: of what is no thread, no kind of accesses, no cell, or in no turn.
func (d *dice) spoil(l []step, cells int) []step {
	kinds, places := append(odd(), 0, 3), []int{math.MinInt, -1 << 32, -2, -1, cells, cells + 1, most, math.MaxInt}
	for i := range l {
		switch s := &l[i]; d.roll(20) {
		case 0:
			s.thread = odd()[d.roll(len(odd()))]
		case 1:
			s.access.Kind = kinds[d.roll(len(kinds))]
		case 2:
			s.access.Cell = places[d.roll(len(places))]
		case 3:
			s.ends = !s.ends
		}
	}
	return l
}

// P9.1: how many cells there are.
func TestCount(t *testing.T) {
	for _, x := range []struct {
		l    []api.Strip
		want int
	}{
		{nil, 0},
		{[]api.Strip{}, 0},
		{[]api.Strip{strip(0, safe, 0)}, 0},
		{[]api.Strip{strip(0, atomic, word), strip(0, regular, 3)}, 0},
		{[]api.Strip{strip(1, safe, 0)}, 1},
		{[]api.Strip{strip(2, safe, 1), strip(1, atomic, 9)}, 3},
		{[]api.Strip{strip(2, safe, 1), strip(0, safe, 1), strip(1, safe, 1)}, 3},
		{[]api.Strip{strip(5, regular, word)}, 5},
		{list(), 10},
		{[]api.Strip{strip(most-1, safe, 1)}, most - 1},
		{[]api.Strip{strip(most, safe, 1)}, most},
		{[]api.Strip{strip(most, safe, 1), strip(0, safe, 1)}, most},
		{[]api.Strip{strip(1, safe, 1), strip(most-1, regular, 1)}, most},
		{slices.Repeat([]api.Strip{strip(1, atomic, 1)}, most), most},
		{slices.Repeat([]api.Strip{strip(0, atomic, 1)}, most+1), 0},
	} {
		if n, e := Count(x.l); n != x.want || e != api.OK {
			t.Fatal(x, n, e)
		}
	}
}

// fails holds the error of Count, and of New, of strips that may not be.
func fails(t *testing.T, want api.Errno, l ...api.Strip) {
	t.Helper()
	if n, e := Count(l); n != 0 || e != want {
		t.Fatal(l, n, e)
	}
	if b, e := New(l); b != nil || e != want {
		t.Fatal(l, b, e)
	}
}

// P9.1: ErrArg, if a strip's Many, Kind or Top may not be, wherever it stands, and be it empty.
func TestCountWrong(t *testing.T) {
	var wrong []api.Strip
	for _, x := range []int{math.MinInt, -most, -2, -1} {
		wrong = append(wrong, strip(x, safe, 1), strip(1, safe, x), strip(0, atomic, x))
	}
	for _, x := range append(odd(), 0, 4, 5) {
		wrong = append(wrong, strip(1, x, 1), strip(0, x, 1))
	}
	for _, x := range []int{word + 1, word + 2, 1 << 62, math.MaxInt} {
		wrong = append(wrong, strip(1, regular, x), strip(0, regular, x))
	}
	for _, x := range wrong {
		fails(t, api.ErrArg, x)
		for i := range list() {
			fails(t, api.ErrArg, slices.Insert(list(), i, x)...)
			spoiled := list()
			spoiled[i] = x
			fails(t, api.ErrArg, spoiled...)
		}
		// However many there are, ahead of it or behind it, it is the error that is named first.
		for _, many := range []int{most, most + 1, math.MaxInt} {
			fails(t, api.ErrArg, strip(many, safe, 1), x)
			fails(t, api.ErrArg, x, strip(many, safe, 1))
		}
	}
	for _, kind := range []int{safe, regular, atomic} {
		for _, top := range []int{0, 1, 255, word - 1, word} {
			if n, e := Count([]api.Strip{strip(4, kind, top)}); n != 4 || e != api.OK {
				t.Fatal(kind, top, n, e)
			}
		}
	}
}

// P9.1: ErrMany, if there are more than 2^15 in all.
func TestCountMany(t *testing.T) {
	one := strip(1, safe, 1)
	for _, many := range []int{most + 1, most + 2, 1 << 16, 1 << 32, 1<<32 + 1, 1 << 62, math.MaxInt} {
		fails(t, api.ErrMany, strip(many, safe, 1))
		fails(t, api.ErrMany, strip(many, atomic, 0), strip(0, regular, 1))
		fails(t, api.ErrMany, one, strip(many-1, regular, word))
		fails(t, api.ErrMany, strip(many-1, regular, word), one)
	}
	fails(t, api.ErrMany, slices.Repeat([]api.Strip{one}, most+1)...)
	fails(t, api.ErrMany, slices.Repeat([]api.Strip{strip(2, safe, 1)}, most/2+1)...)
	// Beyond what is promised: a sum that is no int is too many, too.
	fails(t, api.ErrMany, slices.Repeat([]api.Strip{strip(math.MaxInt, safe, 1)}, 3)...)
	fails(t, api.ErrMany, slices.Repeat([]api.Strip{strip(1<<62, safe, 1)}, 4)...)
}

// P9.1: of which strip each cell is, and that there are none but those.
func TestAt(t *testing.T) {
	two := []api.Strip{strip(2, safe, 1), strip(1, atomic, 9)}
	if s, is := At(two, 2); s != (strip(1, atomic, 9)) || !is {
		t.Fatal(s, is)
	}
	for _, l := range [][]api.Strip{
		nil, {}, {strip(0, safe, 1)}, {strip(1, safe, 0)}, {strip(1, regular, word), strip(1, atomic, 0)}, two, {strip(0, safe, 0), strip(3, regular, 2)}, list(), slices.Repeat(list(), 4), {strip(most, atomic, 7)}, {strip(most-1, atomic, 7), strip(1, safe, 3)},
	} {
		all := each(l)
		for n, want := range all {
			if s, is := At(l, n); s != want || !is {
				t.Fatal(l, n, s, is)
			}
		}
		for _, n := range []int{math.MinInt, math.MinInt + 1, -1 << 32, -most, -2, -1, len(all), len(all) + 1, most, most + 1, 1 << 32, math.MaxInt - 1, math.MaxInt} {
			if n >= 0 && n < len(all) {
				continue
			}
			if s, is := At(l, n); s != (api.Strip{}) || is {
				t.Fatal(l, n, s, is)
			}
		}
	}
}

// P9.1: all cells of a bank are at their beginning, each of the kind and the greatest value of its strip.
func TestNew(t *testing.T) {
	for _, l := range [][]api.Strip{nil, {}, {strip(0, safe, 1)}, list(), slices.Repeat(list(), 5), {strip(most, regular, 3)}} {
		b := newBank(t, l...)
		newRow(l).same(t, b)
		for n, s := range each(l)[:min(len(each(l)), 50)] {
			begin(t, b, 0, write(n, math.MaxInt))
			begin(t, b, 1, read(n))
			// A write of the greatest value overlaps the read: each kind tells another thing of the draws 0 and 1.
			told := end(t, b, 1, 1)
			if want := [...]int{safe: min(1, s.Top), regular: s.Top, atomic: 0}[s.Kind]; told != want {
				t.Fatal(l, n, s, told)
			}
			begin(t, b, 1, read(n))
			if told := end(t, b, 1, 0); told != 0 {
				t.Fatal(l, n, s, told)
			}
			if v := end(t, b, 0, 1); v != 0 || b.Value(n) != s.Top {
				t.Fatal(l, n, s, v, b.Value(n))
			}
		}
	}
}

// P9.1: the last cell there may be is a cell like the others, and there is none behind it.
func TestLastCell(t *testing.T) {
	ones := slices.Repeat([]api.Strip{strip(1, atomic, 9)}, most)
	ones[most-1].Top = 4
	for _, l := range [][]api.Strip{ones, {strip(most-1, atomic, 9), strip(1, atomic, 4)}, {strip(1, safe, 9), strip(most-2, regular, 9), strip(0, safe, 1), strip(1, atomic, 4), strip(0, safe, 1)}} {
		b := newBank(t, l...)
		for n, want := range map[int]int{0: 7, 1: 7, most - 2: 7, most - 1: 4} {
			begin(t, b, 5, write(n, 7))
			if end(t, b, 5, 0); b.Value(n) != want {
				t.Fatal(n, b.Value(n))
			}
		}
		if e := b.Begin(5, write(most, 7)); e != api.ErrRange || b.Len() != most || b.Value(most) != 0 {
			t.Fatal(e, b.Len())
		}
		if l := b.Used(); !slices.Equal(l, []int{0, 1, most - 2, most - 1}) {
			t.Fatal(l)
		}
	}
}

// P9.2: ErrRange, if there is no such cell, whatever else is wrong; and nothing is changed.
func TestBeginRange(t *testing.T) {
	for _, l := range [][]api.Strip{nil, {strip(0, safe, 9)}, {strip(3, safe, 9)}, list()} {
		b, r := newBank(t, l...), newRow(l)
		if r.cells != nil {
			begin(t, b, 2, write(1, 1))
			r.begin(2, write(1, 1))
		}
		for _, n := range []int{math.MinInt, -1 << 32, -len(r.cells), -2, -1, len(r.cells), len(r.cells) + 1, most, 1 << 32, math.MaxInt} {
			if n == 0 && r.cells != nil {
				continue
			}
			for _, thread := range append(odd(), 0, 2, 7) {
				for _, kind := range append(odd(), 0, api.AcRead, api.AcWrite, 3) {
					if e := b.Begin(thread, api.Access{Kind: kind, Cell: n, Val: 5}); e != api.ErrRange {
						t.Fatal(l, thread, kind, n, e)
					}
				}
			}
		}
		r.same(t, b)
	}
}

// P9.2: ErrBusy, if an access of the thread is under way to any cell, ahead of the cell's own errors; it goes on as it was.
func TestBeginBusy(t *testing.T) {
	for thread := range threads {
		for at := range 10 {
			for n := range 10 {
				for _, kind := range append(odd(), 0, api.AcRead, api.AcWrite, 3) {
					b := newBank(t, list()...)
					begin(t, b, thread, write(at, 1))
					if e := b.Begin(thread, api.Access{Kind: kind, Cell: n, Val: 7}); e != api.ErrBusy {
						t.Fatal(thread, at, n, kind, e)
					}
					if where, is := b.Busy(thread); where != at || !is || !slices.Equal(b.Used(), []int{at}) {
						t.Fatal(thread, at, n, kind, where, is, b.Used())
					}
					if v := end(t, b, thread, 3); v != 0 || b.Value(at) != min(1, each(list())[at].Top) {
						t.Fatal(thread, at, n, kind, v, b.Value(at))
					}
				}
			}
		}
	}
}

// P9.2: a thread that is busy at one cell begins nothing at another one till that is over; other threads do.
func TestBusyElsewhere(t *testing.T) {
	b := newBank(t, strip(2, safe, 1))
	begin(t, b, 0, read(1))
	if e := b.Begin(0, read(0)); e != api.ErrBusy {
		t.Fatal(e)
	}
	begin(t, b, 1, read(1))
	begin(t, b, 2, read(0))
	end(t, b, 0, 0)
	begin(t, b, 0, read(0))
}

// P9.2: the cell's errors: ErrArg of what is no thread, or no kind of accesses; and nothing is changed.
func TestBeginWrong(t *testing.T) {
	b, r := newBank(t, list()...), newRow(list())
	for _, s := range []struct {
		thread int
		a      api.Access
	}{{3, write(3, 8)}, {4, read(3)}, {5, read(0)}} {
		begin(t, b, s.thread, s.a)
		r.begin(s.thread, s.a)
	}
	for n := range 10 {
		for _, kind := range append(odd(), 0, api.AcRead, api.AcWrite, 3) {
			for _, thread := range odd() {
				if e := b.Begin(thread, api.Access{Kind: kind, Cell: n, Val: 7}); e != api.ErrArg {
					t.Fatal(n, kind, thread, e)
				}
			}
			for _, thread := range []int{0, 1, 2, 6, 7} {
				if kind == api.AcRead || kind == api.AcWrite {
					continue
				}
				if e := b.Begin(thread, api.Access{Kind: kind, Cell: n, Val: 7}); e != api.ErrArg {
					t.Fatal(n, kind, thread, e)
				}
			}
		}
	}
	r.same(t, b)
	// The write that overlaps the read is the only one that does.
	for _, draw := range []int{0, 1, 2, 3} {
		if v := end(t, b, 4, draw); v != 8*(draw%2) {
			t.Fatal(draw, v)
		}
		begin(t, b, 4, read(3))
	}
}

// P9.2: ErrNone, if no access of the thread is under way: of what is no thread, of one that began none, of one that is over.
func TestEndNone(t *testing.T) {
	b, r := newBank(t, list()...), newRow(list())
	begin(t, b, 3, write(3, 8))
	begin(t, b, 4, read(3))
	begin(t, b, 5, read(0))
	end(t, b, 5, 0)
	r.begin(3, write(3, 8))
	r.begin(4, read(3))
	r.begin(5, read(0))
	r.end(5, 0)
	for _, thread := range append(odd(), 0, 1, 2, 5, 6, 7) {
		for _, draw := range []int{math.MinInt, -1, 0, 3, math.MaxInt} {
			if v, e := b.End(thread, draw); v != 0 || e != api.ErrNone {
				t.Fatal(thread, draw, v, e)
			}
		}
	}
	r.same(t, b)
	if v := end(t, b, 4, 1); v != 8 {
		t.Fatal(v)
	}
	end(t, b, 3, 0)
	for thread := range threads {
		if v, e := b.End(thread, 1); v != 0 || e != api.ErrNone {
			t.Fatal(thread, v, e)
		}
	}
}

// P9.2: what End tells is what the cell tells, by its kind, its greatest value and the draw.
func TestEnd(t *testing.T) {
	for _, kind := range []int{safe, regular, atomic} {
		for _, top := range []int{0, 1, 9, word} {
			for _, draw := range []int{math.MinInt, -word, -17, -2, -1, 0, 1, 2, 3, 9, 10, 17, word, word + 1, math.MaxInt} {
				l := []api.Strip{strip(3, 1+kind%3, 5), strip(2, kind, top), strip(3, 1+kind%3, 5)}
				hold(t, l, []step{
					{thread: 0, access: write(4, 4)}, {thread: 1, access: read(4)}, {thread: 2, access: write(4, 6)}, {thread: 1, ends: true, draw: draw},
					{thread: 1, access: read(3)}, {thread: 1, ends: true, draw: draw}, {thread: 0, ends: true, draw: draw}, {thread: 7, access: read(4)}, {thread: 7, ends: true, draw: draw},
					{thread: 2, ends: true, draw: draw}, {thread: 7, access: read(4)}, {thread: 7, ends: true, draw: draw},
				})
			}
		}
	}
	b := newBank(t, strip(1, atomic, 3), strip(1, safe, 9))
	begin(t, b, 0, write(1, 4))
	begin(t, b, 1, read(1))
	if v := end(t, b, 1, 17); v != 7 {
		t.Fatal(v)
	}
}

// P9.2: a value is the cell's, which is 0 at first, and where there is no cell.
func TestValue(t *testing.T) {
	b := newBank(t, list()...)
	for n, want := range []int{1, 1, 7, 7, 7, 7, 0, 7, 7, 7} {
		begin(t, b, n%threads, write(n, 7))
		if b.Value(n) != 0 {
			t.Fatal(n, b.Value(n))
		}
		if end(t, b, n%threads, 0); b.Value(n) != want {
			t.Fatal(n, b.Value(n))
		}
	}
	for _, n := range []int{math.MinInt, -1 << 32, -10, -2, -1, 10, 11, most, 1 << 32, 1<<32 + 1, math.MaxInt} {
		if b.Value(n) != 0 {
			t.Fatal(n, b.Value(n))
		}
	}
}

// P9.2: each thread is busy at a cell of its own, or at one with others.
func TestBusy(t *testing.T) {
	b := newBank(t, list()...)
	where := func(want ...int) {
		t.Helper()
		for i, n := range want {
			if at, is := b.Busy(i); at != max(n, 0) || is != (n >= 0) {
				t.Fatal(i, at, is, want)
			}
		}
		for _, x := range odd() {
			if at, is := b.Busy(x); at != 0 || is {
				t.Fatal(x, at, is)
			}
		}
	}
	where(-1, -1, -1, -1, -1, -1, -1, -1)
	for i, n := range []int{0, 9, 0, 5, 5, 5, 0, 1} {
		begin(t, b, i, api.Access{Kind: 1 + i%2, Cell: n, Val: 3})
	}
	where(0, 9, 0, 5, 5, 5, 0, 1)
	for _, i := range []int{0, 4, 7} {
		end(t, b, i, 2)
	}
	where(-1, 9, 0, 5, -1, 5, 0, -1)
	begin(t, b, 4, read(0))
	begin(t, b, 0, read(2))
	where(2, 9, 0, 5, 0, 5, 0, -1)
}

// P9.2: how many cells there are, whatever was done.
func TestLen(t *testing.T) {
	for _, l := range [][]api.Strip{nil, {}, {strip(0, safe, 1)}, {strip(1, safe, 1)}, {strip(1, safe, 1), strip(0, safe, 1)}, list(), {strip(most, safe, 1)}, {strip(most-1, safe, 1), strip(1, atomic, 1)}} {
		b, want := newBank(t, l...), len(each(l))
		if b.Len() != want {
			t.Fatal(l, b.Len())
		}
		b.Begin(0, write(0, 1))
		b.Begin(1, write(want, 1))
		b.End(0, 0)
		if b.Len() != want {
			t.Fatal(l, b.Len())
		}
	}
}

// P9.2: the cells to which an access has begun, rising, each once, be it over or not.
func TestUsed(t *testing.T) {
	b := newBank(t, strip(300, safe, 1), strip(most-300, regular, 1))
	if l := b.Used(); len(l) != 0 {
		t.Fatal(l)
	}
	var want []int
	var d dice = 9
	for i := range 400 {
		n := d.roll(most)
		if i%3 == 0 {
			n = d.roll(30)
		}
		begin(t, b, i%threads, api.Access{Kind: 1 + i%2, Cell: n})
		want = append(want, n)
		slices.Sort(want)
		want = slices.Compact(want)
		if l := b.Used(); !slices.Equal(l, want) {
			t.Fatal(i, n, l)
		}
		end(t, b, i%threads, 0)
		if l := b.Used(); !slices.Equal(l, want) {
			t.Fatal(i, n, l)
		}
	}
	// What did not begin has used nothing.
	for _, n := range []int{-1, most, 299, 300} {
		if slices.Contains(want, n) {
			t.Fatal(n)
		}
		b.Begin(8, write(n, 1))
		b.Begin(0, api.Access{Kind: 3, Cell: n})
		b.Begin(-1, read(n))
	}
	if l := b.Used(); !slices.Equal(l, want) {
		t.Fatal(l)
	}
}

// P9.2: all short rows of right and wrong calls of three threads at cells of each kind.
func TestAllShortRows(t *testing.T) {
	l := []api.Strip{strip(1, safe, 9), strip(1, regular, 9), strip(1, atomic, 9)}
	calls := []step{{thread: 2, access: read(3)}, {thread: 0, access: api.Access{Kind: 3, Cell: 1}}, {thread: 8, access: write(1, 6)}, {thread: 3, ends: true}}
	for i := range 3 {
		calls = append(calls, step{thread: i, ends: true, draw: 1}, step{thread: i, access: write(1, 4+i)}, step{thread: i, access: read(1)}, step{thread: i, access: read(i % 2 * 2)})
	}
	row := make([]step, 0, 4)
	var goOn func()
	goOn = func() {
		if len(row) == cap(row) {
			hold(t, l, row)
			return
		}
		for _, s := range calls {
			row = append(row, s)
			goOn()
			row = row[:len(row)-1]
		}
	}
	goOn()
}

// P9.2: long rows of calls of all threads, some of which are wrong.
func TestLongRows(t *testing.T) {
	var d dice = 1
	for i := range 200 {
		l := slices.Repeat(list(), 1+i%3)
		hold(t, l, d.run(200, len(each(l))))
		hold(t, l, d.spoil(d.run(200, len(each(l))), len(each(l))))
	}
	for _, l := range [][]api.Strip{nil, {strip(1, safe, 9)}, {strip(1, regular, 9)}, {strip(1, atomic, 9)}, {strip(2, regular, 1), strip(1, safe, 30)}} {
		hold(t, l, d.spoil(d.run(500, max(len(each(l)), 1)), len(each(l))))
	}
}

// P9.3: a nil bank.
func TestNil(t *testing.T) {
	var b *Bank
	for _, x := range append(odd(), 0, 1, 7) {
		for _, kind := range append(odd(), 0, api.AcRead, api.AcWrite, 3) {
			if e := b.Begin(x, api.Access{Kind: kind, Cell: x, Val: 4}); e != api.ErrNil {
				t.Fatal(x, kind, e)
			}
			if e := b.Begin(x, api.Access{Kind: kind, Val: 4}); e != api.ErrNil {
				t.Fatal(x, kind, e)
			}
		}
		if v, e := b.End(x, 17); v != 0 || e != api.ErrNil {
			t.Fatal(x, v, e)
		}
		if at, is := b.Busy(x); at != 0 || is {
			t.Fatal(x, at, is)
		}
		if b.Value(x) != 0 {
			t.Fatal(x, b.Value(x))
		}
	}
	if b.Len() != 0 || len(b.Used()) != 0 {
		t.Fatal(b.Len(), b.Used())
	}
}

// P9.4: a cell tells the same as it would alone, whatever happens to the others meanwhile.
func TestCellsApart(t *testing.T) {
	var d dice = 4
	for range 100 {
		l := slices.Repeat(list(), 2)
		all := each(l)
		b := newBank(t, l...)
		alone, lonely := make([]*cell.Cell, len(all)), make([]*Bank, len(all))
		for n, s := range all {
			alone[n], lonely[n] = cell.New(s.Kind, s.Top), newBank(t, s)
		}
		var at [threads]int
		for _, s := range d.run(300, len(all)) {
			if !s.ends {
				at[s.thread] = s.access.Cell
				begin(t, b, s.thread, s.access)
				alone[s.access.Cell].Begin(s.thread, s.access)
				begin(t, lonely[s.access.Cell], s.thread, api.Access{Kind: s.access.Kind, Val: s.access.Val})
				continue
			}
			n := at[s.thread]
			got, one := end(t, b, s.thread, s.draw), end(t, lonely[n], s.thread, s.draw)
			if want, e := alone[n].End(s.thread, s.draw); got != want || one != want || e != api.OK {
				t.Fatal(n, s, got, one, want, e)
			}
		}
	}
}

// P9.4: a call changes the value of no cell but the one that it is to do with.
func TestValuesApart(t *testing.T) {
	var d dice = 5
	l := slices.Repeat(list(), 3)
	many := len(each(l))
	b := newBank(t, l...)
	values := make([]int, many)
	var at [threads]int
	for _, s := range d.run(3000, many) {
		changed := -1
		if s.ends {
			changed = at[s.thread]
			end(t, b, s.thread, s.draw)
		} else {
			at[s.thread] = s.access.Cell
			begin(t, b, s.thread, s.access)
		}
		for n := range values {
			if v := b.Value(n); v != values[n] && n != changed {
				t.Fatal(s, n, v)
			}
			values[n] = b.Value(n)
		}
	}
}

// P9.4: a write overlaps the reads of its own cell alone.
func TestOverlapsItsCellAlone(t *testing.T) {
	for _, kind := range []int{safe, regular, atomic} {
		for writes := range 6 {
			for reads := range 6 {
				b := newBank(t, strip(6, kind, 9))
				begin(t, b, 0, write(writes, 4))
				begin(t, b, 1, read(reads))
				begin(t, b, 2, write(writes, 5))
				want := 0
				if reads == writes {
					want = [...]int{safe: 2, regular: 5, atomic: 0}[kind]
				}
				if v := end(t, b, 1, 2); v != want {
					t.Fatal(kind, writes, reads, v)
				}
			}
		}
	}
}

// R4: what is asked of a bank hangs on what was done to it alone.
func TestBanksApart(t *testing.T) {
	one, other := newBank(t, list()...), newBank(t, list()...)
	begin(t, one, 0, write(3, 8))
	newRow(list()).same(t, other)
	begin(t, other, 0, write(3, 5))
	begin(t, other, 1, read(3))
	end(t, one, 0, 0)
	if at, is := other.Busy(0); at != 3 || !is || one.Value(3) != 8 || other.Value(3) != 0 {
		t.Fatal(at, is, one.Value(3), other.Value(3))
	}
	if v := end(t, other, 1, 1); v != 5 {
		t.Fatal(v)
	}
}

// R5: strips that are handed in are not written, and may be written later.
func TestStripsHandedIn(t *testing.T) {
	room := append(list(), slices.Repeat([]api.Strip{strip(7, 7, 7)}, 5)...)
	l := room[:len(list())]
	b := newBank(t, l...)
	Count(l)
	At(l, 4)
	if !slices.Equal(room, append(list(), slices.Repeat([]api.Strip{strip(7, 7, 7)}, 5)...)) {
		t.Fatal(room)
	}
	r := newRow(l)
	for i := range room {
		room[i] = strip(-1, 0, -1)
	}
	for n := range each(list()) {
		for _, a := range []api.Access{write(n, 7), read(n)} {
			begin(t, b, 6, a)
			r.begin(6, a)
			v := end(t, b, 6, 3)
			if want, _ := r.end(6, 3); v != want {
				t.Fatal(n, v, want)
			}
		}
	}
	r.same(t, b)
}

// R5: who asked for the used cells may write into the list.
func TestUsedHandedOut(t *testing.T) {
	b := newBank(t, list()...)
	for _, n := range []int{7, 2, 5} {
		begin(t, b, n, read(n))
	}
	l := b.Used()
	for i := range l {
		l[i] = 9
	}
	_ = append(l[:0], 8, 8, 8)
	if l := b.Used(); !slices.Equal(l, []int{2, 5, 7}) {
		t.Fatal(l)
	}
}

// R1: a bank that New did not make has no cells.
func TestUnfilled(t *testing.T) {
	var b Bank
	newRow(nil).same(t, &b)
	if e := b.Begin(0, write(0, 1)); e != api.ErrRange {
		t.Fatal(e)
	}
	if v, e := b.End(0, 1); v != 0 || e != api.ErrNone {
		t.Fatal(v, e)
	}
}
