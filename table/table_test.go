package table

import (
	"math"
	"slices"
	"testing"

	"kevel/api"
	"kevel/bank"
	"kevel/nums"
	"kevel/slots"
	"kevel/tape"
)

// most is how many locals there are.
const most = 32768

// numbers are values that are handed in, and answers: any number is one.
func numbers() []int {
	return []int{math.MinInt, -1 << 32, -256, -2, -1, 0, 1, 2, 3, 255, 256, 1 << 16, 1<<20 - 1, 1 << 20, 1<<20 + 1, 1 << 32, api.MaxWord, 1 << 41, 1<<42 + 1, 1 << 62, math.MaxInt}
}

// registers are numbers of so many threads at one place: the fields that are none of a tabled number's play no part.
func registers(base, local, n, writer, top int) []api.Reg {
	return []api.Reg{
		{Base: base, Local: local, N: n, Writer: writer, Top: top},
		{Kind: api.RegTable, Base: base, Local: local, N: n, Writer: writer, Reader: api.None, Top: top},
		{Kind: -7, Base: base, Local: local, N: n, Writer: writer, Reader: math.MaxInt, Top: top},
	}
}

// playWrite plays a write.
func playWrite(r api.Reg, me, v int, locals, answers []int) api.Out {
	_, out := tape.Play(func(m *tape.Mem) int { Write(m, r, me, v); return 0 }, locals, answers)
	return out
}

// playRead plays a read.
func playRead(r api.Reg, me int, locals, answers []int) (int, api.Out) {
	return tape.Play(func(m *tape.Mem) int { return Read(m, r, me) }, locals, answers)
}

// alike is whether what came of two operations is the same; lists that are nil are empty ones.
func alike(a, b api.Out) bool {
	return a.Done == b.Done && slices.Equal(a.Accesses, b.Accesses) && slices.Equal(a.Notes, b.Notes) && slices.Equal(a.Locals, b.Locals)
}

// told is an operation as the document tells it: a line of reads and writes of slotted numbers, each of which is played by itself.
type told struct {
	r api.Reg
	// n, w and top are of how many threads the number is, who writes it, and up to what.
	n, w, top       int
	locals, answers []int
	asked           []api.Access
	stopped         bool
}

// tell begins to tell an operation.
func tell(r api.Reg, locals, answers []int) *told {
	o := &told{r: r, n: min(max(r.N, 1), 8), w: r.Writer, top: min(max(r.Top, 0), 1<<20), locals: slices.Clone(locals), answers: answers}
	if o.w < 0 || o.w >= o.n {
		o.w = 0
	}
	return o
}

// get is one of the two locals of the number's own.
func (o *told) get(i int) int {
	if at := o.r.Local + i; at >= 0 && at < len(o.locals) {
		return o.locals[at]
	}
	return 0
}

// set sets one of the two.
func (o *told) set(i, v int) {
	at := o.r.Local + i
	if at < 0 || at >= most || o.stopped {
		return
	}
	if missing := at + 1 - len(o.locals); missing > 0 {
		o.locals = append(o.locals, make([]int, missing)...)
	}
	o.locals[at] = v
}

// part plays an operation of a slotted number.
func (o *told) part(number int, do func(m *tape.Mem, r api.Reg) int) int {
	if o.stopped {
		return 0
	}
	at := api.Reg{Base: o.r.Base + 16*number, Local: o.r.Local + 2 + 18*number}
	v, out := tape.Play(func(m *tape.Mem) int { return do(m, at) }, o.locals, o.answers[len(o.asked):])
	o.asked, o.locals, o.stopped = append(o.asked, out.Accesses...), out.Locals, !out.Done
	return v
}

// read reads a slotted number.
func (o *told) read(number int) int { return o.part(number, slots.Read) }

// write writes a slotted number.
func (o *told) write(number, x int) {
	o.part(number, func(m *tape.Mem, r api.Reg) int { slots.Write(m, r, x); return 0 })
}

// tells is the number by which the rank a tells the rank b.
func (o *told) tells(a, b int) int {
	k := o.n - 1
	if b > a {
		return k + a*(k-1) + b - 1
	}
	return k + a*(k-1) + b
}

// out is what came of it.
func (o *told) out() api.Out {
	return api.Out{Done: !o.stopped, Accesses: o.asked, Locals: tape.Short(o.locals)}
}

// wantWrite is what is to come of a write.
func wantWrite(r api.Reg, me, v int, locals, answers []int) api.Out {
	o := tell(r, locals, answers)
	if me == o.w {
		v = min(max(v, 0), o.top)
		stamp := o.get(0) + 1
		o.set(0, stamp)
		x := min(max(stamp, 0), 1<<20)*(o.top+1) + v
		for a := range o.n - 1 {
			o.write(a, x)
		}
		o.set(1, v)
	}
	return o.out()
}

// wantRead is what is to come of a read.
func wantRead(r api.Reg, me int, locals, answers []int) (int, api.Out) {
	o := tell(r, locals, answers)
	if me < 0 || me >= o.n {
		return 0, o.out()
	}
	if me == o.w {
		return o.get(1), o.out()
	}
	var all []int
	for thread := range o.n {
		if thread != o.w {
			all = append(all, thread)
		}
	}
	a := slices.Index(all, me)
	x := o.read(a)
	for b := range all {
		if b != a {
			x = max(x, o.read(o.tells(b, a)))
		}
	}
	for b := range all {
		if b != a {
			o.write(o.tells(a, b), x)
		}
	}
	if o.stopped {
		return 0, o.out()
	}
	return min(max(x, 0), 1<<42) % (o.top + 1), o.out()
}

// holdWrite plays a write, and holds what comes of it against what is told of it.
func holdWrite(t *testing.T, r api.Reg, me, v int, locals, answers []int) api.Out {
	t.Helper()
	given, before := slices.Clone(locals), slices.Clone(answers)
	want := wantWrite(r, me, v, locals, answers)
	out := playWrite(r, me, v, locals, answers)
	if !alike(out, want) {
		t.Fatalf("write of %d by %d into %+v, locals %v, answers %v: %+v in place of %+v", v, me, r, tape.Short(locals), answers, out, want)
	}
	if !slices.Equal(locals, given) || !slices.Equal(answers, before) {
		t.Fatal("a write wrote into what was handed in")
	}
	if k := min(max(r.N, 1), 8) - 1; len(out.Accesses) > 14*k {
		t.Fatal("a write of too many accesses:", r, out)
	}
	return out
}

// holdRead plays a read, and holds what comes of it against what is told of it.
func holdRead(t *testing.T, r api.Reg, me int, locals, answers []int) api.Out {
	t.Helper()
	given, before := slices.Clone(locals), slices.Clone(answers)
	want, wantOut := wantRead(r, me, locals, answers)
	v, out := playRead(r, me, locals, answers)
	if v != want || !alike(out, wantOut) {
		t.Fatalf("read of %+v by %d, locals %v, answers %v: %d, %+v in place of %d, %+v", r, me, tape.Short(locals), answers, v, out, want, wantOut)
	}
	if !slices.Equal(locals, given) || !slices.Equal(answers, before) {
		t.Fatal("a read wrote into what was handed in")
	}
	if k := min(max(r.N, 1), 8) - 1; len(out.Accesses) > max(18*k+14*(k-1), 0) {
		t.Fatal("a read of too many accesses:", r, out)
	}
	return out
}

// dice is a row of numbers that looks like chance, but is the same each time.
type dice uint32

// below is the next one, below a number.
func (d *dice) below(n int) int {
	*d = *d*1664525 + 1013904223
	return int(*d>>8) % n
}

// some is a list of numbers out of those.
func (d *dice) some(many int, of []int) []int {
	l := make([]int, many)
	for i := range l {
		l[i] = of[d.below(len(of))]
	}
	return l
}

// P15.1: its cells are slots', as often as there are slotted numbers, one behind the other, and its locals those, and two more; whoever asked may write into the list.
func TestStrips(t *testing.T) {
	one := []api.Strip{{Many: 4, Kind: api.CellSafe, Top: 1 << 40}, {Many: 12, Kind: api.CellSafe, Top: 1}}
	for n, many := range map[int]int{1: 0, 2: 1, 3: 4, 4: 9, 5: 16, 6: 25, 7: 36, 8: 49, 9: 49, 255: 49, math.MaxInt: 49, 0: 0, -1: 0, -8: 0, math.MinInt: 0} {
		for range 2 {
			l := Strips(n)
			if !slices.Equal(l, slices.Repeat(one, many)) || Locals(n) != 2+18*many {
				t.Fatal(n, l, Locals(n))
			}
			if all, e := bank.Count(l); all != 16*many || e != api.OK {
				t.Fatal(n, all, e)
			}
			for i := range l {
				l[i] = api.Strip{Many: 9, Kind: api.CellAtomic, Top: 7}
			}
			_ = append(l, api.Strip{Many: 5})
		}
	}
}

// P15.1, P15.2: writes and reads of numbers of all counts of threads, by all threads and by some that there are not, with all kinds of locals and answers.
func TestWritesAndReads(t *testing.T) {
	d := dice(1)
	for n := -1; n <= 10; n++ {
		for writer := -1; writer <= 9; writer++ {
			for me := -1; me <= 9; me++ {
				r := registers(5, 3, n, writer, d.below(30))[d.below(3)]
				for _, of := range [][]int{{0, 1}, {0, 0, 0, 1}, {1, 1, 0, 40, 70}, {0, 0, 1, 1, 1 << 41}} {
					locals, answers := d.some(d.below(900), of), d.some(220, of)
					if out := holdWrite(t, r, me, d.below(40)-5, locals, answers); !out.Done {
						t.Fatal(out)
					}
					if out := holdRead(t, r, me, locals, answers); !out.Done {
						t.Fatal(out)
					}
				}
			}
		}
	}
}

// P15.1: writes and reads with each number of answers.
func TestEachNumberOfAnswers(t *testing.T) {
	d := dice(2)
	for n := 1; n <= 8; n++ {
		for me := range n {
			for writer := range n {
				r := registers(7, 1, n, writer, 9)[d.below(3)]
				locals, answers := d.some(30, []int{0, 1, 5}), d.some(220, []int{0, 1, 1, 0, 25})
				all := holdWrite(t, r, me, 4, locals, answers).Accesses
				for many := range len(all) {
					if out := holdWrite(t, r, me, 4, locals, answers[:many]); out.Done {
						t.Fatal(out)
					}
				}
				all = holdRead(t, r, me, locals, answers).Accesses
				for many := range len(all) {
					if out := holdRead(t, r, me, locals, answers[:many]); out.Done {
						t.Fatal(out)
					}
				}
			}
		}
	}
}

// P15.1: any value and any greatest one are cut, any thread that is none does nothing; answers, and locals, are told as they are, where no bit is asked for.
func TestAnyNumbers(t *testing.T) {
	d := dice(3)
	for _, x := range numbers() {
		for _, y := range numbers() {
			for _, r := range []api.Reg{
				{Kind: api.RegTable, Base: 2, Local: 1, N: 3, Writer: 1, Top: y},
				{Kind: api.RegTable, Base: 2, Local: 1, N: y, Writer: x, Top: 300},
				{Kind: api.RegTable, Base: 2, Local: 1, N: 2, Writer: y, Top: 1 << 20},
			} {
				locals, answers := d.some(60, []int{0, 1}), d.some(220, []int{0, 1, 0, 1, x})
				locals[1], locals[2] = d.below(5000), y
				for _, me := range []int{0, 1, 2, x} {
					holdWrite(t, r, me, x, locals, answers)
					holdRead(t, r, me, locals, answers)
					locals = d.some(80, []int{0, 1, x & (1<<41 - 1)})
				}
			}
		}
	}
}

// P15.1: of one thread it has no cells: its reads tell what it wrote; any writer is the thread 0.
func TestOfOneThread(t *testing.T) {
	for _, n := range []int{math.MinInt, -1, 0, 1} {
		for _, writer := range []int{math.MinInt, -1, 0, 1, 7, math.MaxInt} {
			r := api.Reg{Kind: api.RegTable, Base: 4, Local: 1, N: n, Writer: writer, Top: 9}
			both := func(m *tape.Mem) [3]int {
				Write(m, r, 0, 5)
				Write(m, r, 1, 6)
				first := Read(m, r, 0)
				Write(m, r, 0, 12)
				return [3]int{first, Read(m, r, 0), Read(m, r, 1)}
			}
			v, out := tape.Play(both, []int{8}, nil)
			if v != [3]int{5, 9, 0} || !alike(out, api.Out{Done: true, Locals: []int{8, 2, 9}}) {
				t.Fatal(n, writer, v, out)
			}
		}
	}
}

// P15.1: cells are where they are told to be, be that no place where cells lie.
func TestPlacesOfCells(t *testing.T) {
	d := dice(4)
	for _, base := range []int{0, 1, 32767, 32768, -1, -100, -1 << 32, math.MinInt, math.MaxInt - 783} {
		for n := 1; n <= 8; n++ {
			for me := range n {
				r := registers(base, 2, n, d.below(n), 5)[d.below(3)]
				locals, answers := d.some(900, []int{0, 1}), d.some(220, []int{0, 1, 9})
				holdWrite(t, r, r.Writer, 4, locals, answers)
				holdRead(t, r, me, locals, answers)
			}
		}
	}
}

// P15.1: the last locals that there are are ones, and those beyond are none: they are 0, whatever was written there.
func TestEdgesOfLocals(t *testing.T) {
	d := dice(5)
	full := slices.Repeat([]int{1}, most)
	places := []int{math.MinInt, -1 << 32, math.MaxInt - 883}
	for i := -75; i <= 3; i++ {
		places = append(places, i, most+i)
	}
	for _, local := range places {
		r := registers(5, local, 3, 1, 7)[d.below(3)]
		for _, locals := range [][]int{nil, full, {1, 0, 1}} {
			answers := d.some(60, []int{0, 1, 1, 0, 8, 9})
			for me := range 3 {
				holdWrite(t, r, me, 4, locals, answers)
				holdRead(t, r, me, locals, answers)
			}
		}
	}
	r := api.Reg{Kind: api.RegTable, Base: 5, Local: most - 2, N: 1, Top: 7}
	if out := playWrite(r, 0, 3, nil, nil); !out.Done || len(out.Locals) != most || out.Locals[most-2] != 1 || out.Locals[most-1] != 3 {
		t.Fatal(out.Done, len(out.Locals))
	}
}

// P15.2: the most that a write and a read cost is come to: of three threads 28 and 50.
func TestMostCosts(t *testing.T) {
	write, read := []int{1, 0, 1, 8, 1, 0, 1, 8, 8, 0, 8, 8, 0, 8}, []int{1, 1, 1, 8, 0, 0, 0, 8, 0, 8, 1, 1, 1, 8, 1, 0, 1, 33}
	for n, costs := range map[int][2]int{1: {0, 0}, 2: {14, 18}, 3: {28, 50}, 4: {42, 82}, 8: {98, 210}} {
		k := n - 1
		r := api.Reg{Kind: api.RegTable, Base: 9, Local: 4, N: n, Writer: k, Top: 1 << 20}
		out := holdWrite(t, r, k, 7, nil, slices.Repeat(write, k))
		if !out.Done || len(out.Accesses) != costs[0] {
			t.Fatal(n, out)
		}
		answers := slices.Concat(slices.Repeat(read, k), slices.Repeat(write, max(k-1, 0)))
		out = holdRead(t, r, 0, nil, answers)
		if !out.Done || k > 0 && len(out.Accesses) != costs[1] {
			t.Fatal(n, out)
		}
	}
}

// asked writes out a row of accesses: reads by -1 less than the cell, and writes by the cell and the value.
func asked(l ...[2]int) []api.Access {
	var all []api.Access
	for _, x := range l {
		a := api.Access{Kind: api.AcWrite, Cell: x[0], Val: x[1]}
		if x[1] < 0 {
			a = api.Access{Kind: api.AcRead, Cell: x[0]}
		}
		all = append(all, a)
	}
	return all
}

// P15.1: a first write of three threads' number, access by access, written out: 1 and 5, up to 9, are 15.
func TestWriteWrittenOut(t *testing.T) {
	r := api.Reg{Kind: api.RegTable, Base: 100, Local: 10, N: 3, Writer: 1, Top: 9}
	want := api.Out{Done: true, Accesses: asked(
		[2]int{114, -1}, [2]int{103, 15}, [2]int{107, 1}, [2]int{109, -1}, [2]int{108, 1}, [2]int{110, 1}, [2]int{112, -1}, [2]int{111, 1},
		[2]int{130, -1}, [2]int{119, 15}, [2]int{123, 1}, [2]int{125, -1}, [2]int{124, 1}, [2]int{126, 1}, [2]int{128, -1}, [2]int{127, 1},
	), Locals: []int{0, 0, 0, 0, 0, 0, 0, 0, 0, 0,
		1, 5,
		0, 1, 0, 0, 0, 0, 1, 1, 0, 0, 1, 1, 0, 0, 0, 0, 0, 0,
		0, 1, 0, 0, 0, 0, 1, 1, 0, 0, 1, 1}}
	if out := playWrite(r, 1, 5, nil, make([]int, 16)); !alike(out, want) {
		t.Fatalf("%+v", out)
	}
	// It stopped behind its first slotted number: the stamp is kept, what was written last is not yet.
	want.Done, want.Accesses, want.Locals = false, want.Accesses[:9], append(append(slices.Clone(want.Locals[:10]), 1, 0), want.Locals[12:24]...)
	if out := playWrite(r, 1, 5, nil, make([]int, 8)); !alike(out, want) {
		t.Fatalf("%+v", out)
	}
}

// P15.1: reads of three threads' number, access by access, written out: what the other reader tells is told if it is greater, and told back.
func TestReadsWrittenOut(t *testing.T) {
	r := api.Reg{Kind: api.RegTable, Base: 100, Local: 10, N: 3, Writer: 1, Top: 9}
	for _, c := range []struct{ own, tells, x, answer int }{{15, 27, 27, 7}, {27, 15, 27, 7}, {15, 15, 15, 5}, {0, 0, 0, 0}, {30, 29, 30, 0}, {29, 30, 30, 0}} {
		answers := append([]int{0, 0, c.own, 0, 0, c.tells}, make([]int, 8)...)
		v, out := playRead(r, 0, nil, answers)
		want := api.Out{Done: true, Accesses: asked(
			[2]int{111, -1}, [2]int{105, -1}, [2]int{100, -1},
			[2]int{159, -1}, [2]int{153, -1}, [2]int{148, -1},
			[2]int{146, -1}, [2]int{135, c.x}, [2]int{139, 1}, [2]int{141, -1}, [2]int{140, 1}, [2]int{142, 1}, [2]int{144, -1}, [2]int{143, 1},
		), Locals: append(make([]int, 48), 0, 1, 0, 0, 0, 0, 1, 1, 0, 0, 1, 1)}
		if v != c.answer || !alike(out, want) {
			t.Fatalf("%v: %d, %+v", c, v, out)
		}
		v, out = playRead(r, 2, nil, answers)
		want = api.Out{Done: true, Accesses: asked(
			[2]int{127, -1}, [2]int{121, -1}, [2]int{116, -1},
			[2]int{143, -1}, [2]int{137, -1}, [2]int{132, -1},
			[2]int{162, -1}, [2]int{151, c.x}, [2]int{155, 1}, [2]int{157, -1}, [2]int{156, 1}, [2]int{158, 1}, [2]int{160, -1}, [2]int{159, 1},
		), Locals: append(make([]int, 66), 0, 1, 0, 0, 0, 0, 1, 1, 0, 0, 1, 1)}
		if v != c.answer || !alike(out, want) {
			t.Fatalf("%v: %d, %+v", c, v, out)
		}
	}
}

// P15.1: which number is read and written by whom of four threads, in which order: those that tell one, and those by which one tells.
func TestWhoTellsWhom(t *testing.T) {
	r := api.Reg{Kind: api.RegTable, N: 4, Writer: 2, Top: 9}
	for me, want := range map[int][]int{0: {0, 5, 7, 3, 4}, 1: {1, 3, 8, 5, 6}, 2: nil, 3: {2, 4, 6, 7, 8}} {
		_, out := playRead(r, me, nil, make([]int, 99))
		var seen []int
		for _, a := range out.Accesses {
			seen = append(seen, a.Cell/16)
		}
		if seen = slices.Compact(seen); !out.Done || !slices.Equal(seen, want) {
			t.Fatal(me, seen)
		}
	}
}

// P15.2: what was written by the writer is read by him without an access, cut to what there may be.
func TestOwnReads(t *testing.T) {
	for _, top := range numbers() {
		for _, v := range numbers() {
			r := api.Reg{Kind: api.RegTable, Base: 3, Local: 2, N: 2, Writer: 1, Top: top}
			both := func(m *tape.Mem) int { Write(m, r, 1, v); return Read(m, r, 1) }
			told, out := tape.Play(both, nil, make([]int, 8))
			want := min(max(v, 0), min(max(top, 0), 1<<20))
			if told != want || !out.Done || len(out.Accesses) != 8 || out.Accesses[1].Val != nums.Pack(1, want, top) {
				t.Fatal(top, v, told, out)
			}
		}
	}
}

// R1, R7: of a nil Mem, and of one that nobody played: nothing, and 0.
func TestNobodysMem(t *testing.T) {
	for _, m := range []*tape.Mem{nil, {}} {
		for _, x := range numbers() {
			for _, place := range []int{math.MinInt, -1, 0, 1, most, math.MaxInt - 883} {
				for _, r := range registers(place, place, x, 1, x) {
					for me := -1; me < 9; me++ {
						Write(m, r, me, x)
						if v := Read(m, r, me); v != 0 {
							t.Fatal(x, me, v)
						}
					}
				}
			}
		}
	}
}
