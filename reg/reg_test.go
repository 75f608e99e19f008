package reg

import (
	"math"
	"slices"
	"testing"

	"kevel/api"
	"kevel/bank"
	"kevel/many"
	"kevel/slots"
	"kevel/steady"
	"kevel/table"
	"kevel/tape"
	"kevel/tromp"
	"kevel/unary"
)

// most is how many cells there are, and how many locals.
const most = 32768

// enough is more answers than any operation uses up.
const enough = 1600

// kinds are all kinds that there are.
var kinds = []int{1, 2, 3, 4, 5, 6, 7}

// noKinds are numbers that are no kind of registers.
var noKinds = []int{0, 8, -1, -7, 9, 17, 257, 1 << 32, 1<<32 + 1, math.MinInt, math.MaxInt}

// numbers are values that are handed in, and answers: any number is one.
func numbers() []int {
	return []int{math.MinInt, -1 << 32, -256, -2, -1, 0, 1, 2, 3, 7, 8, 9, 254, 255, 256, 1<<20 - 1, 1 << 20, 1<<20 + 1, api.MaxWord - 1, api.MaxWord, api.MaxWord + 1, 1 << 62, math.MaxInt}
}

// cut is the nearest number from one to another one.
func cut(n, least, most int) int {
	if n < least {
		return least
	}
	if n > most {
		return most
	}
	return n
}

// size is how many cells and locals a register of a kind has, as the document tells it.
func size(r api.Reg) (int, int) {
	n := cut(r.N, 1, 8)
	k := n - 1
	bits := cut(r.Top, 0, 255) + 1
	switch r.Kind {
	case api.RegCell:
		return 1, 0
	case api.RegSteady:
		return 1, 1
	case api.RegUnary:
		return bits, bits
	case api.RegTromp:
		return 3, 4
	case api.RegSlots:
		return 16, 18
	case api.RegTable:
		return 16 * k * k, 2 + 18*k*k
	case api.RegMany:
		return n * 16 * k * k, n * (2 + 18*k*k)
	}
	return 0, 0
}

// mayBe is whether a register may be, as the document tells it, one condition behind the other.
func mayBe(r api.Reg) bool {
	if !slices.Contains(kinds, r.Kind) || r.Base < 0 || r.Local < 0 || r.N < 1 || r.N > 8 {
		return false
	}
	cells, locals := size(r)
	if cells > 0 && (r.Base >= most || r.Base+cells-1 >= most) || locals > 0 && (r.Local >= most || r.Local+locals-1 >= most) {
		return false
	}
	for _, who := range []int{r.Writer, r.Reader} {
		if who < -1 || who >= r.N {
			return false
		}
	}
	if r.Writer == -1 && r.Kind != 1 && r.Kind != 7 {
		return false
	}
	if (r.Kind == 4 || r.Kind == 5) && (r.Reader == -1 || r.Reader == r.Writer) {
		return false
	}
	greatest := map[int]int{1: 1 << 40, 2: 1, 3: 255, 4: 1, 5: 1 << 40, 6: 1 << 20, 7: 255}
	return r.Top >= 1 && r.Top <= greatest[r.Kind]
}

// one is a register of a kind that may be, of three threads, which the thread 1 writes and 2 reads.
func one(kind int) api.Reg {
	r := api.Reg{Kind: kind, Base: 5, Local: 9, N: 3, Writer: 1, Reader: 2, Top: 6}
	if kind == api.RegSteady || kind == api.RegTromp {
		r.Top = 1
	}
	return r
}

// dice is a row of numbers that looks like chance, but is the same each time.
type dice uint32

// below is the next one, below a number.
func (d *dice) below(n int) int {
	*d = *d*1664525 + 1013904223
	return int(*d>>8) % n
}

// some is a list of numbers out of those.
func (d *dice) some(many int, of []int) []int {
	l := make([]int, many)
	for i := range l {
		l[i] = of[d.below(len(of))]
	}
	return l
}

// playWrite plays a write.
func playWrite(r api.Reg, me, v int, locals, answers []int) api.Out {
	_, out := tape.Play(func(m *tape.Mem) int { Write(m, r, me, v); return 0 }, locals, answers)
	return out
}

// playRead plays a read.
func playRead(r api.Reg, me int, locals, answers []int) (int, api.Out) {
	return tape.Play(func(m *tape.Mem) int { return Read(m, r, me) }, locals, answers)
}

// alike is whether what came of two operations is the same; lists that are nil are empty ones.
func alike(a, b api.Out) bool {
	return a.Done == b.Done && slices.Equal(a.Accesses, b.Accesses) && slices.Equal(a.Notes, b.Notes) && slices.Equal(a.Locals, b.Locals)
}

// tellWrite is a write as the layer of the kind does it.
func tellWrite(m *tape.Mem, r api.Reg, me, v int) {
	writes := map[int]func(){
		1: func() { m.Write(r.Base, v) },
		2: func() { steady.Write(m, r, v) },
		3: func() { unary.Write(m, r, v) },
		4: func() { tromp.Write(m, r, v) },
		5: func() { slots.Write(m, r, v) },
		6: func() { table.Write(m, r, me, v) },
		7: func() { many.Write(m, r, me, v) },
	}
	if write := writes[r.Kind]; write != nil {
		write()
	}
}

// tellRead is a read as the layer of the kind does it.
func tellRead(m *tape.Mem, r api.Reg, me int) int {
	reads := map[int]func() int{
		1: func() int { return m.Read(r.Base) },
		2: func() int { return steady.Read(m, r) },
		3: func() int { return unary.Read(m, r) },
		4: func() int { return tromp.Read(m, r) },
		5: func() int { return slots.Read(m, r) },
		6: func() int { return table.Read(m, r, me) },
		7: func() int { return many.Read(m, r, me) },
	}
	if read := reads[r.Kind]; read != nil {
		return read()
	}
	return 0
}

// hold plays a write and a read, and holds what comes of them against what their layer does, and against what they are to cost at most.
func hold(t *testing.T, r api.Reg, me, v int, locals, answers []int) {
	t.Helper()
	given, before := slices.Clone(locals), slices.Clone(answers)
	_, want := tape.Play(func(m *tape.Mem) int { tellWrite(m, r, me, v); return 0 }, locals, answers)
	written := playWrite(r, me, v, locals, answers)
	if !alike(written, want) {
		t.Fatalf("write of %d by %d into %+v, answers %v: %+v in place of %+v", v, me, r, answers, written, want)
	}
	x, want := tape.Play(func(m *tape.Mem) int { return tellRead(m, r, me) }, locals, answers)
	got, read := playRead(r, me, locals, answers)
	if got != x || !alike(read, want) {
		t.Fatalf("read of %+v by %d, answers %v: %d, %+v in place of %d, %+v", r, me, answers, got, read, x, want)
	}
	write, ask := Costs(r)
	if len(written.Accesses) > write || len(read.Accesses) > ask {
		t.Fatalf("%+v costs %d and %d, more than %d and %d", r, len(written.Accesses), len(read.Accesses), write, ask)
	}
	if !slices.Equal(locals, given) || !slices.Equal(answers, before) {
		t.Fatal("an operation wrote into what was handed in")
	}
}

// P17.1: a register may be just if all that the document names holds: all kinds and some that there are not, all counts of threads, writers and readers, and greatest values at their edges.
func TestFine(t *testing.T) {
	tops := []int{math.MinInt, -1, 0, 1, 2, 254, 255, 256, 1<<20 - 1, 1 << 20, 1<<20 + 1, 1<<40 - 1, 1 << 40, 1<<40 + 1, math.MaxInt}
	sides := []int{math.MinInt, -2, -1, 0, 1, 2, 6, 7, 8, 9, math.MaxInt}
	fine := map[int]int{}
	for _, kind := range append(noKinds, kinds...) {
		for _, n := range []int{math.MinInt, -1, 0, 1, 2, 3, 8, 9, math.MaxInt} {
			for _, writer := range sides {
				for _, reader := range sides {
					for _, top := range tops {
						r := api.Reg{Kind: kind, Base: 2, Local: 3, N: n, Writer: writer, Reader: reader, Top: top}
						is := Fine(r)
						if is != mayBe(r) {
							t.Fatalf("%+v: %v", r, is)
						}
						if is {
							fine[kind]++
						}
					}
				}
			}
		}
	}
	// Of one, two, three and eight threads: as many sides, times as many greatest values.
	for kind, many := range map[int]int{
		1: 10 * (4 + 9 + 16 + 36), 2: 2 + 6 + 12 + 30, 3: 4 * (2 + 6 + 12 + 30), 4: 0 + 2 + 6 + 20,
		5: 10 * (0 + 2 + 6 + 20), 6: 7 * (2 + 6 + 12 + 30), 7: 4 * (4 + 9 + 16 + 36),
	} {
		if fine[kind] != many {
			t.Fatal(kind, fine[kind], many)
		}
	}
}

// P17.1: registers that may be, and each of their fields made one that may not.
func TestFineFieldByField(t *testing.T) {
	for _, kind := range kinds {
		if r := one(kind); !Fine(r) {
			t.Fatalf("%+v", r)
		}
		for name, change := range map[string]func(r *api.Reg){
			"kind":           func(r *api.Reg) { r.Kind += 7 },
			"kind below":     func(r *api.Reg) { r.Kind -= 7 },
			"base below 0":   func(r *api.Reg) { r.Base = -1 },
			"base":           func(r *api.Reg) { r.Base = most },
			"local below 0":  func(r *api.Reg) { r.Local = -1 },
			"no threads":     func(r *api.Reg) { r.N, r.Writer, r.Reader = 0, -1, -1 },
			"nine threads":   func(r *api.Reg) { r.N = 9 },
			"few threads":    func(r *api.Reg) { r.N = 2 },
			"one thread":     func(r *api.Reg) { r.N, r.Reader = 1, 0 },
			"writer":         func(r *api.Reg) { r.Writer = 3 },
			"writer below":   func(r *api.Reg) { r.Writer = -2 },
			"reader":         func(r *api.Reg) { r.Reader = 3 },
			"reader below":   func(r *api.Reg) { r.Reader = -2 },
			"top":            func(r *api.Reg) { r.Top = 0 },
			"top below 0":    func(r *api.Reg) { r.Top = -1 },
			"top beyond all": func(r *api.Reg) { r.Top = 1<<40 + 1 },
		} {
			r := one(kind)
			change(&r)
			if Fine(r) {
				t.Fatal(kind, name)
			}
		}
	}
	if Fine(api.Reg{}) {
		t.Fatal("the zero register may be")
	}
}

// P17.1: who may be a kind's writer and reader: anybody, nobody else, one and the same.
func TestFineSides(t *testing.T) {
	for _, kind := range kinds {
		alone := kind == api.RegTromp || kind == api.RegSlots
		for _, c := range []struct {
			writer, reader int
			is             bool
		}{
			{0, 1, true}, {1, 0, true}, {2, 1, true},
			{1, 1, !alone}, {0, api.None, !alone},
			{api.None, 1, kind == api.RegCell || kind == api.RegMany},
			{api.None, api.None, kind == api.RegCell || kind == api.RegMany},
		} {
			r := one(kind)
			r.Writer, r.Reader = c.writer, c.reader
			if Fine(r) != c.is {
				t.Fatalf("%+v", r)
			}
		}
	}
}

// P17.1: all cells, and all locals, are below 2^15; one that has none has none that are not.
func TestFinePlaces(t *testing.T) {
	for _, kind := range kinds {
		for n := 1; n <= 8; n++ {
			for _, top := range []int{1, 2, 255} {
				r := api.Reg{Kind: kind, N: n, Reader: n - 1, Top: top}
				cells, locals := size(r)
				for _, base := range []int{math.MinInt, -1, 0, 1, most - cells - 1, most - cells, most - cells + 1, most - 1, most, most + 1, 1 << 40, math.MaxInt - 1, math.MaxInt} {
					for _, local := range []int{math.MinInt, -1, 0, 1, most - locals - 1, most - locals, most - locals + 1, most - 1, most, most + 1, 1 << 40, math.MaxInt - 1, math.MaxInt} {
						r.Base, r.Local = base, local
						if Fine(r) != mayBe(r) {
							t.Fatalf("%+v: %v", r, Fine(r))
						}
					}
				}
			}
		}
	}
	for _, c := range []struct {
		r  api.Reg
		is bool
	}{
		{api.Reg{Kind: api.RegCell, Base: 32767, Local: 32767, N: 1, Top: 1}, true},
		{api.Reg{Kind: api.RegCell, Base: 32768, Local: 32767, N: 1, Top: 1}, false},
		{api.Reg{Kind: api.RegCell, Base: 32767, Local: 32768, N: 1, Top: 1}, true},
		{api.Reg{Kind: api.RegSteady, Base: 32767, Local: 32767, N: 1, Top: 1}, true},
		{api.Reg{Kind: api.RegSteady, Base: 32767, Local: 32768, N: 1, Top: 1}, false},
		{api.Reg{Kind: api.RegUnary, Base: 32764, Local: 32764, N: 1, Top: 3}, true},
		{api.Reg{Kind: api.RegUnary, Base: 32765, Local: 32764, N: 1, Top: 3}, false},
		{api.Reg{Kind: api.RegUnary, Base: 32764, Local: 32765, N: 1, Top: 3}, false},
		{api.Reg{Kind: api.RegTable, Base: 32768, Local: 32766, N: 1, Top: 1}, true},
		{api.Reg{Kind: api.RegTable, Base: 32768, Local: 32767, N: 1, Top: 1}, false},
		{api.Reg{Kind: api.RegMany, Base: 26496, Local: 25696, N: 8, Top: 1}, true},
		{api.Reg{Kind: api.RegMany, Base: 26497, Local: 25696, N: 8, Top: 1}, false},
		{api.Reg{Kind: api.RegMany, Base: 26496, Local: 25697, N: 8, Top: 1}, false},
	} {
		if Fine(c.r) != c.is {
			t.Fatalf("%+v", c.r)
		}
	}
}

// layerStrips are the cells of a register as its layer tells them.
func layerStrips(r api.Reg) []api.Strip {
	switch r.Kind {
	case api.RegSteady:
		return steady.Strips()
	case api.RegUnary:
		return unary.Strips(r.Top)
	case api.RegTromp:
		return tromp.Strips()
	case api.RegSlots:
		return slots.Strips()
	case api.RegTable:
		return table.Strips(r.N)
	case api.RegMany:
		return many.Strips(r.N)
	}
	return nil
}

// P17.1: each kind's cells and locals are those of its layer; of RegCell one atomic one; whoever asked may write into the list.
func TestStrips(t *testing.T) {
	for _, kind := range append(noKinds, kinds...) {
		for n := -1; n <= 10; n++ {
			for _, top := range numbers() {
				r := api.Reg{Kind: kind, Base: top, Local: n, N: n, Writer: n, Reader: top, Top: top}
				want := layerStrips(r)
				if kind == api.RegCell {
					want = []api.Strip{{Many: 1, Kind: api.CellAtomic, Top: cut(top, 0, 1<<40)}}
				}
				cells, locals := size(r)
				for range 2 {
					l := Strips(r)
					if !slices.Equal(l, want) || Cells(r) != cells || Locals(r) != locals {
						t.Fatalf("%+v: %v, %d, %d", r, l, Cells(r), Locals(r))
					}
					if all, e := bank.Count(l); all != cells || e != api.OK {
						t.Fatal(r, all, e)
					}
					for i := range l {
						l[i] = api.Strip{Many: 9, Kind: api.CellRegular, Top: 7}
					}
					_ = append(l, api.Strip{Many: 5})
				}
			}
		}
	}
}

// P17.1: of no kind there are no cells, and no locals, and nothing else may be of it.
func TestNoKind(t *testing.T) {
	for _, kind := range noKinds {
		r := one(api.RegMany)
		r.Kind = kind
		if Fine(r) || len(Strips(r)) != 0 || Cells(r) != 0 || Locals(r) != 0 {
			t.Fatal(kind)
		}
		if write, read := Costs(r); write != 0 || read != 0 {
			t.Fatal(kind, write, read)
		}
	}
}

// P17.1: who may write and who may read: those that the kind, the writer and the reader let.
func TestWhoMay(t *testing.T) {
	for _, kind := range kinds {
		for n := 1; n <= 8; n++ {
			for writer := -1; writer < n; writer++ {
				for reader := -1; reader < n; reader++ {
					r := api.Reg{Kind: kind, N: n, Writer: writer, Reader: reader, Top: 1}
					for me := range 10 {
						write, read := me == writer, me == reader || reader == -1
						switch kind {
						case 1:
							write = write || writer == -1
						case 6:
							read = me < n
						case 7:
							write, read = me < n, me < n
						}
						if MayWrite(r, me) != write || MayRead(r, me) != read {
							t.Fatalf("%+v, %d: %v, %v", r, me, MayWrite(r, me), MayRead(r, me))
						}
					}
				}
			}
		}
	}
}

// P17.1: who is none of the threads may neither write nor read what just these may, and none that is no writer or reader may.
func TestNoThreadMay(t *testing.T) {
	for _, me := range []int{math.MinInt, -8, -2, -1, 3, 8, 255, math.MaxInt} {
		for _, kind := range kinds {
			if r := one(kind); MayWrite(r, me) || MayRead(r, me) {
				t.Fatal(kind, me)
			}
		}
		for _, n := range []int{math.MinInt, -1, 0} {
			for _, kind := range []int{api.RegTable, api.RegMany} {
				if r := (api.Reg{Kind: kind, N: n, Writer: 5, Top: 1}); MayWrite(r, me) || MayRead(r, me) {
					t.Fatal(kind, me, n)
				}
			}
		}
	}
}

// P17.2: a cell is written and read by one access, whoever does it, and with whatever it is written.
func TestCell(t *testing.T) {
	for _, x := range numbers() {
		for _, base := range []int{math.MinInt, -1, 0, 7, most - 1, most, math.MaxInt} {
			for _, me := range []int{math.MinInt, -1, 0, 1, 2, 9, math.MaxInt} {
				for _, writer := range []int{api.None, 0, 1} {
					r := api.Reg{Kind: api.RegCell, Base: base, Local: 1, N: 2, Writer: writer, Reader: 1 - writer, Top: 3}
					out := playWrite(r, me, x, []int{4, 5}, []int{6})
					if !alike(out, api.Out{Done: true, Accesses: []api.Access{{Kind: api.AcWrite, Cell: base, Val: x}}, Locals: []int{4, 5}}) {
						t.Fatal(r, out)
					}
					v, out := playRead(r, me, []int{4, 5}, []int{x})
					if v != x || !alike(out, api.Out{Done: true, Accesses: []api.Access{{Kind: api.AcRead, Cell: base}}, Locals: []int{4, 5}}) {
						t.Fatal(r, v, out)
					}
					hold(t, r, me, x, nil, nil)
				}
			}
		}
	}
}

// P17.2, P17.4: writes and reads of each kind are those of its layer, by all threads, of all counts of threads, with all kinds of locals and answers.
func TestAsTheLayersDo(t *testing.T) {
	d := dice(1)
	for _, kind := range append(noKinds, kinds...) {
		for n := -1; n <= 9; n++ {
			for me := -1; me <= 8; me++ {
				for _, of := range [][]int{{0, 1}, {0, 0, 0, 1}, {1, 1, 0, 40, 70}, {0, 0, 1, 1, 1 << 41}} {
					r := api.Reg{Kind: kind, Base: d.below(9), Local: d.below(9), N: n, Writer: d.below(11) - 2, Reader: d.below(11) - 2, Top: d.below(30)}
					hold(t, r, me, d.below(40)-5, d.some(d.below(2000), of), d.some(enough, of))
				}
			}
		}
	}
}

// P17.2: with each number of answers; of many threads with each eleventh.
func TestEachNumberOfAnswers(t *testing.T) {
	d := dice(2)
	for _, kind := range kinds {
		for n := 1; n <= 8; n++ {
			r := api.Reg{Kind: kind, Base: 3, Local: 2, N: n, Writer: d.below(n), Reader: d.below(n), Top: 9}
			locals, answers := d.some(300, []int{0, 1, 5}), d.some(enough, []int{0, 1, 1, 0, 25})
			step := 1
			if n > 3 {
				step = 11
			}
			write, read := Costs(r)
			for so := 0; so <= max(write, read)+1; so += step {
				hold(t, r, d.below(n), 7, locals, answers[:so])
			}
		}
	}
}

// P17.2: with any numbers as values, answers, greatest values, counts of threads and places, as the layers take them.
func TestAnyNumbers(t *testing.T) {
	d := dice(3)
	for _, kind := range kinds {
		for _, x := range numbers() {
			for _, y := range numbers() {
				for _, r := range []api.Reg{
					{Kind: kind, Base: 2, Local: 1, N: 3, Writer: 1, Reader: 2, Top: y},
					{Kind: kind, Base: 2, Local: 1, N: y, Writer: y, Reader: x, Top: 300},
					{Kind: kind, Base: x &^ (1 << 62), Local: y, N: 2, Writer: api.None, Reader: api.None, Top: 2},
				} {
					if r.Base > math.MaxInt-most || r.Local > math.MaxInt-most {
						continue
					}
					for _, me := range []int{0, 1, x} {
						hold(t, r, me, x, d.some(60, []int{0, 1, 5}), d.some(enough, []int{0, 1, 0, 1, x}))
					}
				}
			}
		}
	}
}

// P17.2: of RegSteady to RegSlots it plays no part who writes and reads.
func TestWhoPlaysNoPart(t *testing.T) {
	d := dice(4)
	for _, kind := range []int{api.RegSteady, api.RegUnary, api.RegTromp, api.RegSlots} {
		r := one(kind)
		for range 50 {
			x, locals, answers := d.below(7), d.some(40, []int{0, 1}), d.some(20, []int{0, 1})
			write := playWrite(r, r.Writer, x, locals, answers)
			v, read := playRead(r, r.Reader, locals, answers)
			for _, me := range []int{math.MinInt, -1, 0, 1, 2, 3, 8, math.MaxInt} {
				if out := playWrite(r, me, x, locals, answers); !alike(out, write) {
					t.Fatal(kind, me, out, write)
				}
				if w, out := playRead(r, me, locals, answers); w != v || !alike(out, read) {
					t.Fatal(kind, me, w, out, read)
				}
			}
		}
	}
}

// P17.2: of no kind nothing is done, and 0 is told, whatever there is.
func TestOfNoKindNothing(t *testing.T) {
	for _, kind := range noKinds {
		r := one(api.RegMany)
		r.Kind = kind
		for me := -1; me <= 4; me++ {
			for _, answers := range [][]int{nil, {7}, {1, 1, 1}} {
				out := playWrite(r, me, 1, []int{3}, answers)
				v, read := playRead(r, me, []int{3}, answers)
				want := api.Out{Done: true, Locals: []int{3}}
				if v != 0 || !alike(out, want) || !alike(read, want) {
					t.Fatal(kind, me, v, out, read)
				}
			}
		}
	}
}

// P17.2: operations of all kinds, written out.
func TestWrittenOut(t *testing.T) {
	w := func(cell, v int) api.Access { return api.Access{Kind: api.AcWrite, Cell: cell, Val: v} }
	ask := func(cell int) api.Access { return api.Access{Kind: api.AcRead, Cell: cell} }
	for _, c := range []struct {
		r        api.Reg
		writes   []api.Access
		reads    []api.Access
		answered []int
		told     int
	}{
		{api.Reg{Kind: api.RegCell, Base: 40, N: 2, Top: 9}, []api.Access{w(40, 1)}, []api.Access{ask(40)}, []int{8}, 8},
		{api.Reg{Kind: api.RegSteady, Base: 40, N: 2, Top: 1}, []api.Access{w(40, 1)}, []api.Access{ask(40)}, []int{1}, 1},
		{api.Reg{Kind: api.RegUnary, Base: 40, N: 2, Top: 3}, []api.Access{w(41, 1), w(40, 1)}, []api.Access{ask(40), ask(41), ask(42)}, []int{1, 0, 1}, 2},
		{api.Reg{Kind: api.RegTromp, Base: 40, N: 2, Reader: 1, Top: 1}, []api.Access{w(40, 1), ask(42), w(41, 1)}, []api.Access{ask(41), ask(40), ask(41), w(42, 1), ask(40), ask(41)}, []int{1, 1, 1, 0, 1, 1}, 1},
		{api.Reg{Kind: api.RegSlots, Base: 40, N: 2, Reader: 1, Top: 9}, []api.Access{ask(54), w(43, 1), w(47, 1), ask(49), w(48, 1), w(50, 1), ask(52), w(51, 1)}, []api.Access{ask(51), ask(45), ask(40)}, []int{0, 0, 6}, 6},
		{api.Reg{Kind: api.RegTable, Base: 40, N: 2, Top: 9}, []api.Access{ask(54), w(43, 11), w(47, 1), ask(49), w(48, 1), w(50, 1), ask(52), w(51, 1)}, []api.Access{ask(51), ask(45), ask(40)}, []int{0, 0, 36}, 6},
		{api.Reg{Kind: api.RegMany, Base: 40, N: 2, Top: 9}, []api.Access{ask(67), ask(61), ask(56), ask(54), w(43, 40971), w(47, 1), ask(49), w(48, 1), w(50, 1), ask(52), w(51, 1)}, []api.Access{ask(51), ask(45), ask(40)}, []int{0, 0, 36}, 6},
	} {
		out := playWrite(c.r, 0, 1, nil, make([]int, 11))
		if !out.Done || !slices.Equal(out.Accesses, c.writes) {
			t.Fatalf("%+v: %+v", c.r, out)
		}
		v, out := playRead(c.r, 1, nil, c.answered)
		if v != c.told || !out.Done || !slices.Equal(out.Accesses, c.reads) {
			t.Fatalf("%+v: %d, %+v", c.r, v, out)
		}
	}
}

// P17.3: what a write and a read cost at most, by kinds, greatest values and counts of threads.
func TestCosts(t *testing.T) {
	for n, tables := range [][4]int{1: {0, 0, 0, 0}, {14, 18, 32, 18}, {28, 50, 128, 100}, {42, 82, 288, 246}, {56, 114, 512, 456}, {70, 146, 800, 730}, {84, 178, 1152, 1068}, {98, 210, 1568, 1470}} {
		if n == 0 {
			continue
		}
		for _, top := range []int{1, 2, 9, 100, 254, 255} {
			for kind, costs := range map[int][2]int{
				1: {1, 1}, 2: {1, 1}, 3: {top + 1, top + 1}, 4: {3, 7}, 5: {14, 18},
				6: {tables[0], tables[1]}, 7: {tables[2], tables[3]},
			} {
				for _, who := range []int{api.None, 0, n - 1} {
					r := api.Reg{Kind: kind, Base: 7, Local: 1, N: n, Writer: who, Reader: -1 - who, Top: top}
					if write, read := Costs(r); write != costs[0] || read != costs[1] {
						t.Fatalf("%+v: %d, %d", r, write, read)
					}
				}
			}
		}
	}
}

// worst are answers by which each kind's operations cost most.
func worst(r api.Reg) (writes, reads []int) {
	// A write of a bit of three cells costs three, as the reader knows of all, and a read seven, as the writer is ahead each time.
	write := []int{1, 0, 1, 8, 1, 0, 1, 8, 8, 0, 8, 8, 0, 8}
	read := []int{1, 1, 1, 8, 0, 0, 0, 8, 0, 8, 1, 1, 1, 8, 1, 0, 1, 33}
	k := r.N - 1
	all := slices.Concat(slices.Repeat(read, k), slices.Repeat(write, max(k-1, 0)))
	switch r.Kind {
	case api.RegUnary:
		return make([]int, 300), append([]int{1}, make([]int, 300)...)
	case api.RegTromp:
		return []int{8, 0, 8}, []int{1, 1, 1, 8, 0, 0, 0}
	case api.RegSlots:
		return write, read
	case api.RegTable:
		return slices.Repeat(write, k), all
	case api.RegMany:
		return append(slices.Repeat(all, k), slices.Repeat(write, k)...), slices.Repeat(all, k)
	}
	return []int{0}, []int{0}
}

// P17.3, P17.4: what is told as the most is come to by each kind, and is never gone beyond.
func TestMostCosts(t *testing.T) {
	for _, kind := range kinds {
		for n := 1; n <= 8; n++ {
			for _, top := range []int{1, 4, 255} {
				r := api.Reg{Kind: kind, Base: 2, Local: 1, N: n, Reader: n - 1, Top: top}
				if kind == api.RegSteady || kind == api.RegTromp {
					r.Top = 1
				}
				writes, reads := worst(r)
				// All bits of the number are up: a write of the greatest one puts all but its own down.
				var locals []int
				if kind == api.RegUnary {
					locals = append([]int{0, 0}, slices.Repeat([]int{1}, top)...)
					locals[top+1] = 0
				}
				write, read := Costs(r)
				out := playWrite(r, 0, r.Top, locals, writes)
				if !out.Done || len(out.Accesses) != write {
					t.Fatalf("%+v: %d of %d", r, len(out.Accesses), write)
				}
				_, out = playRead(r, n-1, nil, reads)
				if !out.Done || len(out.Accesses) != read {
					t.Fatalf("%+v: %d of %d", r, len(out.Accesses), read)
				}
				hold(t, r, 0, r.Top, locals, writes)
				hold(t, r, n-1, r.Top, locals, reads)
			}
		}
	}
}

// P17.4: whatever bits of few accesses are answered, with whatever locals, none costs more than is told.
func TestAllAnswers(t *testing.T) {
	for _, kind := range []int{api.RegCell, api.RegSteady, api.RegUnary, api.RegTromp} {
		r := api.Reg{Kind: kind, N: 2, Reader: 1, Top: 1}
		if kind == api.RegUnary {
			r.Top = 3
		}
		for number := range 1 << 11 {
			bits := make([]int, 11)
			for i := range bits {
				bits[i] = number >> i & 1
			}
			for v := range r.Top + 1 {
				hold(t, r, 0, v, bits[:4], bits[4:])
			}
		}
	}
}

// P17.4: one that may not be costs no more than is told, either.
func TestCostsOfAny(t *testing.T) {
	d := dice(5)
	for _, kind := range append(noKinds, kinds...) {
		for _, n := range []int{math.MinInt, -1, 0, 1, 8, 9, math.MaxInt} {
			for _, top := range numbers() {
				r := api.Reg{Kind: kind, N: n, Writer: d.below(9) - 1, Reader: d.below(9) - 1, Top: top}
				for range 3 {
					hold(t, r, d.below(9), top, d.some(300, []int{0, 1}), d.some(enough, []int{0, 1}))
				}
			}
		}
	}
}

// P17.2: on cells of a bank each kind tells what was written last, where nothing overlaps.
func TestOnCells(t *testing.T) {
	d := dice(6)
	for _, kind := range kinds {
		for n := 2; n <= 4; n++ {
			r := api.Reg{Kind: kind, N: n, Writer: 0, Reader: 1, Top: 6}
			if kind == api.RegSteady || kind == api.RegTromp {
				r.Top = 1
			}
			if !Fine(r) {
				t.Fatal(r)
			}
			cells, e := bank.New(Strips(r))
			if e != api.OK || cells.Len() != Cells(r) {
				t.Fatal(e)
			}
			locals, last := make([][]int, n), 0
			for range 60 {
				me := d.below(n)
				if MayWrite(r, me) {
					last = d.below(r.Top + 1)
					do(t, cells, me, &locals[me], func(m *tape.Mem) int { Write(m, r, me, last); return 0 })
				}
				me = d.below(n)
				if MayRead(r, me) {
					if v := do(t, cells, me, &locals[me], func(m *tape.Mem) int { return Read(m, r, me) }); v != last {
						t.Fatalf("%+v: %d in place of %d", r, v, last)
					}
				}
			}
		}
	}
}

// do does an operation access by access on cells, and is what it answered.
func do(t *testing.T, cells *bank.Bank, me int, locals *[]int, op func(m *tape.Mem) int) int {
	t.Helper()
	var answers []int
	for {
		v, out := tape.Play(op, *locals, answers)
		if out.Done {
			*locals = out.Locals
			return v
		}
		if e := cells.Begin(me, out.Accesses[len(out.Accesses)-1]); e != api.OK {
			t.Fatal(e)
		}
		x, e := cells.End(me, 1)
		if e != api.OK {
			t.Fatal(e)
		}
		answers = append(answers, x)
	}
}

// R1, R7: of a nil Mem, and of one that nobody played: nothing, and 0.
func TestNobodysMem(t *testing.T) {
	for _, m := range []*tape.Mem{nil, {}} {
		for _, kind := range append(noKinds, kinds...) {
			for _, x := range numbers() {
				r := api.Reg{Kind: kind, Base: 3, Local: 2, N: x, Writer: x, Reader: x, Top: x}
				for me := -1; me < 9; me++ {
					Write(m, r, me, x)
					// What is read is all 0: of a regular number its bit 0 is up then.
					if v := Read(m, r, me); v != 0 {
						t.Fatal(kind, x, me, v)
					}
				}
			}
		}
	}
}
