package steady

import (
	"math"
	"slices"
	"testing"

	"kevel/api"
	"kevel/bank"
	"kevel/tape"
)

// most is how many locals there are.
const most = 32768

// numbers are values that are handed in, and answers: any number is one. Some have a small one's lower bits.
func numbers() []int {
	return []int{math.MinInt, -1 << 32, -256, -2, -1, 0, 1, 2, 3, 5, 255, 256, 1 << 16, 1 << 32, 1<<32 + 1, 1 << 41, 1 << 62, math.MaxInt}
}

// asBit is what is written for a number.
func asBit(v int) int {
	if v == 0 {
		return 0
	}
	return 1
}

// registers are bits at all kinds of places: the fields that are no place play no part.
func registers(base, local int) []api.Reg {
	return []api.Reg{
		{Base: base, Local: local},
		{Kind: api.RegSteady, Base: base, Local: local, N: 1, Reader: api.None, Top: 1},
		{Kind: api.RegMany, Base: base, Local: local, N: 8, Writer: 7, Reader: 3, Top: 255},
		{Kind: -1, Base: base, Local: local, N: -5, Writer: -9, Reader: math.MinInt, Top: math.MaxInt},
	}
}

// playWrite plays a write.
func playWrite(r api.Reg, v int, locals, answers []int) api.Out {
	_, out := tape.Play(func(m *tape.Mem) int { Write(m, r, v); return 0 }, locals, answers)
	return out
}

// playRead plays a read.
func playRead(r api.Reg, locals, answers []int) (int, api.Out) {
	return tape.Play(func(m *tape.Mem) int { return Read(m, r) }, locals, answers)
}

// alike is whether what came of two operations is the same; lists that are nil are empty ones.
func alike(a, b api.Out) bool {
	return a.Done == b.Done && slices.Equal(a.Accesses, b.Accesses) && slices.Equal(a.Notes, b.Notes) && slices.Equal(a.Locals, b.Locals)
}

// writes are accesses that write values into a cell, one behind the other.
func writes(cell int, l ...int) []api.Access {
	var all []api.Access
	for _, v := range l {
		all = append(all, api.Access{Kind: api.AcWrite, Cell: cell, Val: v})
	}
	return all
}

// with are locals of which one is set.
func with(locals []int, at, v int) []int {
	l := slices.Clone(locals)
	if missing := at + 1 - len(l); missing > 0 {
		l = append(l, make([]int, missing)...)
	}
	l[at] = v
	return l
}

// P11.1: its cells are one safe one up to 1, and it has one local; whoever asked may write into the list.
func TestStrips(t *testing.T) {
	want := []api.Strip{{Many: 1, Kind: api.CellSafe, Top: 1}}
	for range 3 {
		l := Strips()
		if !slices.Equal(l, want) || Locals() != 1 {
			t.Fatal(l, Locals())
		}
		_ = append(l, api.Strip{Many: 5})
		l[0] = api.Strip{Many: 9, Kind: api.CellAtomic, Top: 7}
	}
	if n, e := bank.Count(Strips()); n != 1 || e != api.OK {
		t.Fatal(n, e)
	}
}

// holdWrite plays a write with up to two answers, of which it needs one at most, and holds what comes of it against what is told of it.
func holdWrite(t *testing.T, r api.Reg, v int, locals []int, answer int) {
	t.Helper()
	last, next := 0, asBit(v)
	if r.Local < len(locals) {
		last = locals[r.Local]
	}
	for many := range 3 {
		want := api.Out{Done: true, Locals: tape.Short(locals)}
		if last != next {
			want.Accesses, want.Done = writes(r.Base, next), many > 0
		}
		if want.Done {
			want.Locals = tape.Short(with(locals, r.Local, next))
		}
		if out := playWrite(r, v, locals, []int{answer, answer}[:many]); !alike(out, want) {
			t.Fatalf("write of %d into %+v, %d answers: %+v in place of %+v", v, r, many, out, want)
		}
	}
}

// P11.1, P11.2: a write, with all that its local may be, is one access, if it changes the bit, and none else; its local is set behind that, and no other one ever.
func TestWrite(t *testing.T) {
	for _, base := range []int{0, 1, 3, 32767, 32768, -1, math.MinInt, math.MaxInt} {
		for _, local := range []int{0, 1, 4, 9} {
			for _, r := range registers(base, local) {
				for _, last := range []int{0, 1} {
					for _, v := range numbers() {
						holdWrite(t, r, v, with(nil, local, last), v)
						holdWrite(t, r, v, with([]int{8, 7, 6, 5, 4, 3}, local, last), 0)
						holdWrite(t, r, v, with([]int{1, 0, 1, 0, 1, 0, 1, 0, 1, 0, 1, 0}, local, last), 1)
					}
				}
			}
		}
	}
}

// P11.1: at first it is 0, also where no local was ever set; so a first write of 0 is nothing.
func TestFirstWrite(t *testing.T) {
	r := api.Reg{Kind: api.RegSteady, Base: 3, Local: 2}
	for _, locals := range [][]int{nil, {}, {0}, {0, 0, 0}, {5, 5}} {
		if out := playWrite(r, 0, locals, nil); !alike(out, api.Out{Done: true, Locals: tape.Short(locals)}) {
			t.Fatal(locals, out)
		}
		if out := playWrite(r, 1, locals, []int{0}); !alike(out, api.Out{Done: true, Accesses: writes(3, 1), Locals: with(locals, 2, 1)}) {
			t.Fatal(locals, out)
		}
	}
}

// P11.1: a local that is no bit is not what is to be written, whatever that is: it is held as it is.
func TestLocalThatIsNoBit(t *testing.T) {
	for _, last := range numbers() {
		for _, v := range numbers() {
			holdWrite(t, api.Reg{Base: 5, Local: 1}, v, []int{3, last, 3}, 0)
		}
	}
}

// P11.1: the last local that there is is one, and those beyond are none: what is written there is never kept.
func TestEdgesOfLocals(t *testing.T) {
	for _, local := range []int{most - 2, most - 1} {
		for _, v := range []int{0, 1, 2} {
			holdWrite(t, api.Reg{Base: 7, Local: local}, v, nil, 0)
			holdWrite(t, api.Reg{Base: 7, Local: local}, v, with([]int{6}, local, 1), 0)
		}
	}
	for _, local := range []int{math.MinInt, -1 << 32, -2, -1, most, most + 1, 1 << 32, math.MaxInt} {
		for _, locals := range [][]int{nil, {1, 1}, slices.Repeat([]int{1}, most)} {
			r := api.Reg{Base: 7, Local: local}
			twice := func(v int) api.Out {
				_, out := tape.Play(func(m *tape.Mem) int { Write(m, r, v); Write(m, r, v); return 0 }, locals, []int{0, 0})
				return out
			}
			if out := twice(3); !alike(out, api.Out{Done: true, Accesses: writes(7, 1, 1), Locals: locals}) {
				t.Fatal(local, len(locals), out.Done, out.Accesses)
			}
			if out := twice(0); !alike(out, api.Out{Done: true, Locals: locals}) {
				t.Fatal(local, len(locals), out.Done, out.Accesses)
			}
		}
	}
}

// P11.1, P11.2: a read is one access, whose answer is the read's, whatever it is and whatever the locals are, and leaves these.
func TestRead(t *testing.T) {
	for _, base := range []int{0, 1, 3, 32767, -1, 32768, math.MinInt, math.MaxInt} {
		for _, local := range []int{0, 2, most - 1, -1, most} {
			for _, r := range registers(base, local) {
				for _, locals := range [][]int{nil, {1, 0, 1}, {0, 0, 5}} {
					for _, answer := range numbers() {
						holdRead(t, r, locals, answer)
					}
				}
			}
		}
	}
}

// holdRead plays a read with up to two answers, of which it needs one.
func holdRead(t *testing.T, r api.Reg, locals []int, answer int) {
	t.Helper()
	for many := range 3 {
		told := 0
		if many > 0 {
			told = answer
		}
		want := api.Out{Done: many > 0, Accesses: []api.Access{{Kind: api.AcRead, Cell: r.Base}}, Locals: locals}
		got, out := playRead(r, locals, []int{answer, answer + 1}[:many])
		if got != told || !alike(out, want) {
			t.Fatalf("read of %+v, %d answers: %d, %+v in place of %d, %+v", r, many, got, out, told, want)
		}
	}
}

// P11.1: what the cell is answers a write does not matter to it, nor to what comes behind it.
func TestAnswersOfWrites(t *testing.T) {
	r := api.Reg{Base: 3, Local: 2}
	for _, a := range numbers() {
		for _, b := range numbers() {
			got, out := tape.Play(func(m *tape.Mem) int {
				Write(m, r, 1)
				Write(m, r, 1)
				Write(m, r, 0)
				return Read(m, r)
			}, nil, []int{a, b, 9})
			asked := append(writes(3, 1, 0), api.Access{Kind: api.AcRead, Cell: 3})
			if got != 9 || !alike(out, api.Out{Done: true, Accesses: asked}) {
				t.Fatal(a, b, got, out)
			}
		}
	}
}

// P11.1: the example: a write of 1, twice, is one access; also if another play does the second one, with the locals that the first one left.
func TestTwice(t *testing.T) {
	r := api.Reg{Base: 3, Local: 2}
	for _, v := range []int{1, 2, -1} {
		_, out := tape.Play(func(m *tape.Mem) int { Write(m, r, 1); Write(m, r, v); return 0 }, nil, []int{0})
		if !alike(out, api.Out{Done: true, Accesses: writes(3, 1), Locals: []int{0, 0, 1}}) {
			t.Fatal(v, out)
		}
		first := playWrite(r, v, nil, []int{0})
		if out := playWrite(r, 1, first.Locals, nil); !alike(out, api.Out{Done: true, Locals: []int{0, 0, 1}}) {
			t.Fatal(v, out)
		}
	}
}

// P11.1: a write that stopped wrote nothing that its local knows of, so that it is asked for again.
func TestStopped(t *testing.T) {
	r := api.Reg{Base: 3, Local: 2}
	for last := range 2 {
		locals := with([]int{4, 4}, 2, last)
		stopped := playWrite(r, 1-last, locals, nil)
		if stopped.Done || !slices.Equal(stopped.Locals, tape.Short(locals)) {
			t.Fatal(last, stopped)
		}
		again := playWrite(r, 1-last, stopped.Locals, []int{0})
		if !again.Done || !slices.Equal(again.Accesses, writes(3, 1-last)) {
			t.Fatal(last, again)
		}
	}
}

// R1: of a nil Mem, and of one that nobody played, nothing.
func TestNobodysMem(t *testing.T) {
	for _, m := range []*tape.Mem{nil, {}} {
		for _, x := range numbers() {
			for _, r := range registers(x, x) {
				Write(m, r, x)
				Write(m, r, 1)
				if v := Read(m, r); v != 0 {
					t.Fatal(x, v)
				}
			}
		}
	}
}

// cells are one steady bit's, and of whoever writes it the locals.
type cells struct {
	bank   *bank.Bank
	reg    api.Reg
	locals []int
}

// newCells are a steady bit's at its beginning.
func newCells(t *testing.T) *cells {
	t.Helper()
	b, e := bank.New(Strips())
	if e != api.OK {
		t.Fatal(e)
	}
	return &cells{bank: b, reg: api.Reg{Kind: api.RegSteady, N: 3, Reader: api.None, Top: 1}}
}

// alone does an access that nothing overlaps.
func (c *cells) alone(t *testing.T, a api.Access) int {
	t.Helper()
	if e := c.bank.Begin(0, a); e != api.OK {
		t.Fatal(e)
	}
	v, e := c.bank.End(0, 7)
	if e != api.OK {
		t.Fatal(e)
	}
	return v
}

// P11.2, P11.3: of all rows of writes by one writer none writes into the cell what it has, none costs more than one access, and what was written is read.
func TestNeverWrittenWithWhatItHas(t *testing.T) {
	const long = 10
	for row := range 1 << long {
		c := newCells(t)
		for i := range long {
			v := row >> i & 1
			before := c.bank.Value(0)
			out := playWrite(c.reg, -3*v, c.locals, []int{0, 0, 0})
			if !out.Done || len(out.Accesses) > 1 || (len(out.Accesses) == 1) != (v != before) {
				t.Fatal(row, i, out)
			}
			for _, a := range out.Accesses {
				if a.Val == c.bank.Value(a.Cell) {
					t.Fatal(row, i, a)
				}
				c.alone(t, a)
			}
			c.locals = out.Locals
			told := c.alone(t, api.Access{Kind: api.AcRead})
			if got, _ := playRead(c.reg, nil, []int{told}); got != v || c.bank.Value(0) != v {
				t.Fatal(row, i, got)
			}
		}
	}
}

// P11.3: all writes of one operation, too.
func TestNeverWrittenWithWhatItHasInOne(t *testing.T) {
	const long = 10
	for row := range 1 << long {
		_, out := tape.Play(func(m *tape.Mem) int {
			for i := range long {
				Write(m, api.Reg{Base: 4, Local: 1}, row>>i&1)
			}
			return 0
		}, nil, make([]int, long))
		has, changes := 0, 0
		for i := range long {
			if row>>i&1 != has {
				has = 1 - has
				changes++
			}
		}
		if !out.Done || len(out.Accesses) != changes {
			t.Fatal(row, out)
		}
		for i, a := range out.Accesses {
			if a != writes(4, 1-i%2)[0] {
				t.Fatal(row, i, a)
			}
		}
	}
}

// P11.1: bits that lie side by side do not touch each other.
func TestSideBySide(t *testing.T) {
	const many = 4
	values := [many]int{}
	var locals []int
	for step := range 200 {
		i, v := step*step/3%many, step*7/5%2
		r := api.Reg{Base: 10 + i, Local: 20 + i}
		out := playWrite(r, v, locals, []int{0})
		var want []api.Access
		if values[i] != v {
			want = writes(10+i, v)
		}
		values[i] = v
		locals = out.Locals
		if !out.Done || !slices.Equal(out.Accesses, want) || !slices.Equal(locals, tape.Short(append(make([]int, 20), values[:]...))) {
			t.Fatal(step, i, v, out)
		}
	}
}

// schedule is a row of turns: who takes each one, what is written, and what each read's draw is.
type schedule struct {
	order, values, draws int
}

// run is a writer, 0, and a reader, 1, whose accesses overlap one another.
type run struct {
	*cells
	schedule
	// sees are the values that the read that is under way may tell, if the bit is regular.
	sees    []int
	reading bool
	// last is the value of the last write that was over, and next that of the one that is under way.
	last, next int
	under      api.Out
	writing    bool
}

// turnOfWriter begins a write, or ends the one that is under way; one without an access is over at once.
func (r *run) turnOfWriter(t *testing.T) {
	if r.writing {
		if _, e := r.bank.End(0, 0); e != api.OK {
			t.Fatal(e)
		}
		r.last, r.locals, r.writing = r.next, r.under.Locals, false
		return
	}
	r.next, r.values = r.values&1, r.values>>1
	r.sees = append(r.sees, r.next)
	r.under = playWrite(r.reg, r.next, r.locals, []int{0})
	if len(r.under.Accesses) == 0 {
		r.last = r.next
		return
	}
	if e := r.bank.Begin(0, r.under.Accesses[0]); e != api.OK {
		t.Fatal(e)
	}
	r.writing = true
}

// turnOfReader begins a read, or ends the one that is under way, and asks whether it tells what it sees.
func (r *run) turnOfReader(t *testing.T) {
	if !r.reading {
		_, out := playRead(r.reg, nil, nil)
		if e := r.bank.Begin(1, out.Accesses[0]); e != api.OK {
			t.Fatal(e)
		}
		r.sees, r.reading = []int{r.last}, true
		if r.writing {
			r.sees = append(r.sees, r.next)
		}
		return
	}
	told, e := r.bank.End(1, r.draws&1)
	if e != api.OK {
		t.Fatal(e)
	}
	r.draws >>= 1
	r.reading = false
	if v, out := playRead(r.reg, nil, []int{told}); !out.Done || !slices.Contains(r.sees, v) {
		t.Fatal(v, "is none of", r.sees)
	}
}

// W7: a read that overlaps writes tells the value that was there, or one that they write, in each order of all that happens, whatever the safe cell tells.
func TestRegular(t *testing.T) {
	const turns = 11
	for order := range 1 << turns {
		for values := range 1 << 5 {
			for draws := range 1 << 3 {
				r := &run{cells: newCells(t), schedule: schedule{order: order, values: values, draws: draws}}
				for i := range turns {
					if order>>i&1 == 0 {
						r.turnOfWriter(t)
					} else {
						r.turnOfReader(t)
					}
				}
			}
		}
	}
}
