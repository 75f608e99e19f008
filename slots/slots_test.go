package slots

import (
	"math"
	"slices"
	"testing"

	"kevel/api"
	"kevel/bank"
	"kevel/tape"
)

// most is how many locals there are.
const most = 32768

// numbers are values that are handed in, and answers: any number is one. Some have a bit's lower bits.
func numbers() []int {
	return []int{math.MinInt, -1 << 32, -256, -2, -1, 0, 1, 2, 3, 255, 256, 1 << 16, 1 << 32, 1<<32 + 1, api.MaxWord - 1, api.MaxWord, api.MaxWord + 1, 1 << 41, 1 << 62, math.MaxInt}
}

// registers are numbers at one place: the fields that are no place play no part.
func registers(base, local int) []api.Reg {
	return []api.Reg{
		{Base: base, Local: local},
		{Kind: api.RegSlots, Base: base, Local: local, N: 2, Writer: 0, Reader: 1, Top: api.MaxWord},
		{Kind: api.RegMany, Base: base, Local: local, N: 8, Writer: 7, Reader: 3, Top: 255},
		{Kind: -1, Base: base, Local: local, N: -5, Writer: -9, Reader: math.MinInt, Top: -1},
	}
}

// playWrite plays a write.
func playWrite(r api.Reg, v int, locals, answers []int) api.Out {
	_, out := tape.Play(func(m *tape.Mem) int { Write(m, r, v); return 0 }, locals, answers)
	return out
}

// playRead plays a read.
func playRead(r api.Reg, locals, answers []int) (int, api.Out) {
	return tape.Play(func(m *tape.Mem) int { return Read(m, r) }, locals, answers)
}

// alike is whether what came of two operations is the same; lists that are nil are empty ones.
func alike(a, b api.Out) bool {
	return a.Done == b.Done && slices.Equal(a.Accesses, b.Accesses) && slices.Equal(a.Notes, b.Notes) && slices.Equal(a.Locals, b.Locals)
}

// told is an operation as the document tells it: a line of steps, each of which an answer lets go on.
type told struct {
	r       api.Reg
	locals  []int
	answers []int
	asked   []api.Access
	stopped bool
}

// tell begins to tell an operation.
func tell(r api.Reg, locals, answers []int) *told {
	// Room for all eighteen, where there are any; more would be noughts that nobody sees.
	missing := 0
	if r.Local < most {
		missing = min(max(r.Local+18-len(locals), 0), most-len(locals))
	}
	return &told{r: r, locals: slices.Concat(locals, make([]int, missing)), answers: answers}
}

// get is a local of the number.
func (o *told) get(i int) int {
	if at := o.r.Local + i; at >= 0 && at < most {
		return o.locals[at]
	}
	return 0
}

// set sets a local of the number.
func (o *told) set(i, v int) {
	if at := o.r.Local + i; at >= 0 && at < most && !o.stopped {
		o.locals[at] = v
	}
}

// ask asks for an access of a cell of the number.
func (o *told) ask(kind, cell, v int) int {
	if o.stopped {
		return 0
	}
	o.asked = append(o.asked, api.Access{Kind: kind, Cell: o.r.Base + cell, Val: v})
	if len(o.asked) > len(o.answers) {
		o.stopped = true
		return 0
	}
	return o.answers[len(o.asked)-1]
}

// read reads a cell of the number.
func (o *told) read(cell int) int { return o.ask(api.AcRead, cell, 0) }

// put writes a cell of the number, and keeps what it wrote in a local.
func (o *told) put(cell, local, v int) {
	o.ask(api.AcWrite, cell, v)
	o.set(local, v)
}

// writeBit writes a Tromp bit of the number, whose cells and locals begin there.
func (o *told) writeBit(cell, local, b int) {
	if o.stopped || o.get(local) == b {
		return
	}
	o.put(cell, local, b)
	if w := o.get(local + 1); o.read(cell+2) == w && !o.stopped {
		o.put(cell+1, local+1, 1-w)
	}
}

// readBit reads a Tromp bit of the number, whose cells and locals begin there.
func (o *told) readBit(cell, local int) int {
	if o.read(cell+1) == o.get(local+2) {
		return o.get(local + 3)
	}
	x := o.read(cell)
	if r := o.get(local + 2); o.read(cell+1) != r && !o.stopped {
		o.put(cell+2, local+2, 1-r)
	}
	o.set(local+3, o.read(cell))
	if o.read(cell+1) == o.get(local+2) {
		return o.get(local + 3)
	}
	o.set(local+3, o.read(cell))
	return x
}

// isNought is 1 for 0, and 0 for all others.
func isNought(v int) int {
	if v == 0 {
		return 1
	}
	return 0
}

// out is what came of it.
func (o *told) out() api.Out {
	return api.Out{Done: !o.stopped, Accesses: o.asked, Locals: tape.Short(o.locals)}
}

// wantWrite is what is to come of a write.
func wantWrite(r api.Reg, v int, locals, answers []int) api.Out {
	o := tell(r, locals, answers)
	p := isNought(o.readBit(13, 14))
	i := isNought(o.get(p))
	o.ask(api.AcWrite, 2*p+i, v)
	o.set(p, i)
	o.writeBit(4+3*p, 2+4*p, i)
	o.writeBit(10, 10, p)
	return o.out()
}

// wantRead is what is to come of a read.
func wantRead(r api.Reg, locals, answers []int) (int, api.Out) {
	o := tell(r, locals, answers)
	p := 1 - isNought(o.readBit(10, 10))
	o.writeBit(13, 14, p)
	i := 1 - isNought(o.readBit(4+3*p, 2+4*p))
	v := o.read(2*p + i)
	if o.stopped {
		v = 0
	}
	return v, o.out()
}

// holdWrite plays a write, and holds what comes of it against what is told of it.
func holdWrite(t *testing.T, r api.Reg, v int, locals, answers []int) api.Out {
	t.Helper()
	given, before := slices.Clone(locals), slices.Clone(answers)
	want := wantWrite(r, v, locals, answers)
	out := playWrite(r, v, locals, answers)
	if !alike(out, want) {
		t.Fatalf("write of %d into %+v, locals %v, answers %v: %+v in place of %+v", v, r, tape.Short(locals), answers, out, want)
	}
	if !slices.Equal(locals, given) || !slices.Equal(answers, before) {
		t.Fatal("a write wrote into what was handed in")
	}
	if len(out.Accesses) > 14 {
		t.Fatal("a write of more than fourteen accesses:", out)
	}
	return out
}

// holdRead plays a read, and holds what comes of it against what is told of it.
func holdRead(t *testing.T, r api.Reg, locals, answers []int) api.Out {
	t.Helper()
	given, before := slices.Clone(locals), slices.Clone(answers)
	want, wantOut := wantRead(r, locals, answers)
	v, out := playRead(r, locals, answers)
	if v != want || !alike(out, wantOut) {
		t.Fatalf("read of %+v, locals %v, answers %v: %d, %+v in place of %d, %+v", r, tape.Short(locals), answers, v, out, want, wantOut)
	}
	if !slices.Equal(locals, given) || !slices.Equal(answers, before) {
		t.Fatal("a read wrote into what was handed in")
	}
	if len(out.Accesses) > 18 {
		t.Fatal("a read of more than eighteen accesses:", out)
	}
	return out
}

// row is the row of so many numbers out of those that there are, of that number.
func row(number, many int, of []int) []int {
	var all []int
	for range many {
		all = append(all, of[number%len(of)])
		number /= len(of)
	}
	return all
}

// rows is how many rows there are of so many numbers.
func rows(many int, of []int) int {
	all := 1
	for range many {
		all *= len(of)
	}
	return all
}

// spread lays a number's bits out as locals, at those places.
func spread(number int, places []int) []int {
	locals := make([]int, 18)
	for i, place := range places {
		locals[place] = number >> i & 1
	}
	return locals
}

// follow holds an operation with each row of answers out of those, where it asks for them; hold holds it with more answers than it asks for. Operations are counted by their accesses.
func follow(t *testing.T, hold func(answers []int) api.Out, of []int, costs *[19]int) {
	t.Helper()
	// picks are, access by access, which answers are handed in; all behind them get the first one.
	var picks [20]int
	for {
		answers := make([]int, len(picks))
		for i, pick := range picks {
			answers[i] = of[pick]
		}
		out := hold(answers)
		n := len(out.Accesses)
		if !out.Done {
			t.Fatal("it does not end", out)
		}
		costs[n]++
		// What is answered to a write plays no part: it is the first one, always.
		for n > 0 && (out.Accesses[n-1].Kind == api.AcWrite || picks[n-1] == len(of)-1) {
			n--
			picks[n] = 0
		}
		if n == 0 {
			return
		}
		picks[n-1]++
	}
}

// P14.1: its cells are four safe ones up to 2^40, and twelve up to 1, its locals eighteen; whoever asked may write into the list.
func TestStrips(t *testing.T) {
	want := []api.Strip{{Many: 4, Kind: api.CellSafe, Top: 1 << 40}, {Many: 12, Kind: api.CellSafe, Top: 1}}
	for range 3 {
		l := Strips()
		if !slices.Equal(l, want) || Locals() != 18 {
			t.Fatal(l, Locals())
		}
		_ = append(l[:1], api.Strip{Many: 5})
		l[0] = api.Strip{Many: 9, Kind: api.CellAtomic, Top: 7}
	}
	if n, e := bank.Count(Strips()); n != 16 || e != api.OK {
		t.Fatal(n, e)
	}
}

// P14.1, P14.2: a write, with all locals of the writer's that are bits, and with each row of answers that are bits.
func TestWrite(t *testing.T) {
	own := []int{0, 1, 2, 3, 6, 7, 10, 11, 16, 17}
	var costs [19]int
	for number := range 1 << len(own) {
		locals := spread(number, own)
		r := registers(7, 0)[number%4]
		follow(t, func(answers []int) api.Out { return holdWrite(t, r, number, locals, answers) }, []int{0, 1}, &costs)
	}
	if costs[2] == 0 || costs[14] == 0 {
		t.Fatal(costs)
	}
}

// P14.1, P14.2: a read, with all locals of the reader's that are bits, and with each row of answers that are bits.
func TestRead(t *testing.T) {
	own := []int{4, 5, 8, 9, 12, 13, 14, 15}
	var costs [19]int
	for number := range 1 << len(own) {
		locals := spread(number, own)
		r := registers(7, 0)[number%4]
		follow(t, func(answers []int) api.Out { return holdRead(t, r, locals, answers) }, []int{0, 1}, &costs)
	}
	if costs[3] == 0 || costs[18] == 0 {
		t.Fatal(costs)
	}
}

// P14.1: a write and a read with each number of answers, of all locals and answers that are bits by turns.
func TestEachNumberOfAnswers(t *testing.T) {
	for number := range 1 << 10 {
		locals := row(number*57, 18, []int{0, 1})
		answers := slices.Repeat(row(number, 10, []int{0, 1}), 2)
		for many := range len(answers) + 1 {
			for _, r := range registers(7, number%3) {
				holdWrite(t, r, 5, locals, answers[:many])
				holdRead(t, r, locals, answers[:many])
			}
		}
	}
}

// P14.1: whatever is written is written as it is; what is answered to writes plays no part.
func TestWriteOfAnyNumber(t *testing.T) {
	for _, v := range numbers() {
		for _, a := range numbers() {
			for _, r := range registers(3, 2) {
				for _, locals := range [][]int{nil, {9, 9, 1, 1}, {1, 2, 0, 1, 1, 1}, slices.Repeat([]int{1}, 30)} {
					holdWrite(t, r, v, locals, []int{0, a, a, 0, a, a, 0, a, 5})
					holdWrite(t, r, v, locals, []int{1, 1, 1, a, 1, 1, a, a, 0, a, a, 1, a, a})
				}
			}
			out := playWrite(api.Reg{Base: 3}, v, nil, []int{0, a, a, 0, a, a, 0, a})
			if !out.Done || len(out.Accesses) != 8 || out.Accesses[1] != (api.Access{Kind: api.AcWrite, Cell: 6, Val: v}) {
				t.Fatal(v, a, out)
			}
		}
	}
}

// P14.1: answers and locals that are no bits count as 1 where a bit is asked for, and are held, kept and told as they are elsewhere.
func TestAnyAnswersAndLocals(t *testing.T) {
	r := api.Reg{Kind: api.RegSlots, Base: 3, Local: 1, N: 2, Reader: 1, Top: 1}
	var costs [19]int
	all := numbers()
	for i, a := range all {
		b := all[(5*i+3)%len(all)]
		for number := range 1 << 7 {
			locals := slices.Concat([]int{3}, slices.Repeat(row(number, 9, []int{a, b}), 2), []int{3})
			answers := slices.Repeat(row(7*number, 9, []int{a, 0, b}), 2)
			for many := range 19 {
				holdWrite(t, r, b, locals, answers[:many])
				holdRead(t, r, locals, answers[:many])
			}
		}
		for _, locals := range [][]int{nil, slices.Repeat([]int{a}, 25), slices.Repeat([]int{b, a, 1}, 7)} {
			follow(t, func(answers []int) api.Out { return holdWrite(t, r, a, locals, answers) }, []int{a, b}, &costs)
			follow(t, func(answers []int) api.Out { return holdRead(t, r, locals, answers) }, []int{a, b}, &costs)
		}
	}
}

// P14.1: cells are where they are told to be, be that no place where cells lie.
func TestPlacesOfCells(t *testing.T) {
	locals := []int{5, 5, 1, 0, 0, 1, 1, 1, 0, 1, 1, 0, 0, 1, 0, 1, 1, 0, 1, 0, 7}
	for _, base := range []int{0, 1, 32767, 32768, -1, -4, -14, -16, -1 << 32, math.MinInt, math.MaxInt - 15} {
		var costs [19]int
		for _, r := range registers(base, 2) {
			follow(t, func(answers []int) api.Out { return holdWrite(t, r, 4, locals, answers) }, []int{0, 1}, &costs)
			follow(t, func(answers []int) api.Out { return holdRead(t, r, locals, answers) }, []int{0, 1}, &costs)
		}
	}
}

// P14.1: the last locals that there are are ones, and those beyond are none: they are 0, whatever was written there.
func TestEdgesOfLocals(t *testing.T) {
	full := slices.Repeat([]int{1}, most)
	write, read := []int{1, 0, 1, 5, 1, 0, 1, 5, 5, 1, 5, 5, 0, 5}, []int{1, 1, 1, 5, 1, 0, 1, 5, 0, 5, 1, 1, 1, 5, 1, 0, 1, 33}
	check := func(local int, lists [][]int) {
		r := api.Reg{Kind: api.RegSlots, Base: 5, Local: local, N: 2, Reader: 1, Top: 1}
		for _, locals := range lists {
			for many := range 19 {
				holdWrite(t, r, 3, locals, write[:min(many, len(write))])
				holdRead(t, r, locals, read[:many])
			}
			holdWrite(t, r, 3, locals, slices.Repeat([]int{0}, 20))
			holdWrite(t, r, 3, locals, slices.Repeat([]int{1}, 20))
			holdRead(t, r, locals, slices.Repeat([]int{0}, 20))
			holdRead(t, r, locals, slices.Repeat([]int{1}, 20))
		}
	}
	for local := most - 20; local < most+2; local++ {
		check(local, [][]int{nil, full})
	}
	for _, local := range []int{math.MinInt, -1 << 32, math.MaxInt - 17} {
		check(local, [][]int{nil, full, {1, 1, 1}})
	}
	for local := -20; local <= 0; local++ {
		check(local, [][]int{nil, full[:40], {1, 0, 1}})
	}
	r := api.Reg{Base: 5, Local: most - 18}
	if out := playWrite(r, 3, nil, write); !out.Done || len(out.Locals) != most {
		t.Fatal(out.Done, len(out.Locals))
	}
}

// asked writes out a row of accesses of a number at 10: reads by 100 + cell, writes of 0 and of 1 by 200 + cell and 300 + cell, of 7 by 700 + cell.
func asked(l ...int) []api.Access {
	var all []api.Access
	for _, x := range l {
		a := api.Access{Kind: api.AcWrite, Cell: 10 + x%100, Val: x/100 - 2}
		switch x / 100 {
		case 1:
			a = api.Access{Kind: api.AcRead, Cell: a.Cell}
		case 7:
			a.Val = 7
		}
		all = append(all, a)
	}
	return all
}

// P14.1: writes, access by access, written out; the first is the example.
func TestWritesWrittenOut(t *testing.T) {
	r := api.Reg{Kind: api.RegSlots, Base: 10, Local: 1, Reader: 1, Top: 9}
	for _, c := range []struct {
		locals, answers []int
		asked           []api.Access
		kept            []int
	}{
		{nil, []int{0, 8, 8, 0, 8, 8, 0, 8},
			asked(114, 703, 307, 109, 308, 310, 112, 311),
			[]int{0, 0, 1, 0, 0, 0, 0, 1, 1, 0, 0, 1, 1}},
		// The reader told of the pair 1 meanwhile, so that the pair 0 is written.
		{[]int{0, 0, 1, 0, 0, 0, 0, 1, 1, 0, 0, 1, 1}, []int{1, 1, 1, 8, 1, 1, 8, 8, 0, 8, 8, 1, 8},
			asked(114, 113, 114, 315, 113, 114, 701, 304, 106, 305, 210, 112, 211),
			[]int{0, 1, 1, 1, 1, 0, 0, 1, 1, 0, 0, 0, 0, 0, 0, 0, 0, 1, 1}},
		// Again the pair 1: its place 0 now.
		{[]int{0, 0, 1, 0, 0, 0, 0, 1, 1, 0, 0, 1, 1}, []int{0, 8, 8, 0},
			asked(114, 702, 207, 109),
			[]int{0, 0, 0, 0, 0, 0, 0, 0, 1, 0, 0, 1, 1}},
		// The most that it may cost.
		{nil, []int{1, 0, 1, 8, 1, 0, 1, 8, 8, 0, 8, 8, 0, 8},
			asked(114, 113, 114, 315, 113, 114, 113, 703, 307, 109, 308, 310, 112, 311),
			[]int{0, 0, 1, 0, 0, 0, 0, 1, 1, 0, 0, 1, 1, 0, 0, 0, 0, 1, 1}},
	} {
		if out := playWrite(r, 7, c.locals, c.answers); !alike(out, api.Out{Done: true, Accesses: c.asked, Locals: c.kept}) {
			t.Fatalf("%v: %+v", c, out)
		}
	}
}

// P14.1: reads, access by access, written out.
func TestReadsWrittenOut(t *testing.T) {
	r := api.Reg{Kind: api.RegSlots, Base: 10, Local: 1, Reader: 1, Top: 9}
	for _, c := range []struct {
		locals, answers []int
		answer          int
		asked           []api.Access
		kept            []int
	}{
		{nil, []int{0, 0, 33}, 33, asked(111, 105, 100), nil},
		// Behind a first write of 7.
		{nil, []int{1, 1, 1, 8, 1, 1, 8, 0, 8, 1, 1, 1, 8, 1, 1, 7}, 7,
			asked(111, 110, 111, 312, 110, 111, 313, 115, 314, 108, 107, 108, 309, 107, 108, 103),
			[]int{0, 0, 0, 0, 0, 0, 0, 0, 0, 1, 1, 0, 0, 1, 1, 1, 1}},
		// Behind that read.
		{[]int{0, 0, 0, 0, 0, 0, 0, 0, 0, 1, 1, 0, 0, 1, 1, 1, 1}, []int{1, 1, 7}, 7,
			asked(111, 108, 103),
			[]int{0, 0, 0, 0, 0, 0, 0, 0, 0, 1, 1, 0, 0, 1, 1, 1, 1}},
		// The most that it may cost.
		{nil, []int{1, 1, 1, 8, 0, 0, 0, 8, 0, 8, 1, 1, 1, 8, 1, 0, 1, 1 << 40}, 1 << 40,
			asked(111, 110, 111, 312, 110, 111, 110, 313, 115, 314, 108, 107, 108, 309, 107, 108, 107, 103),
			[]int{0, 0, 0, 0, 0, 0, 0, 0, 0, 1, 1, 0, 0, 1, 0, 1, 1}},
	} {
		answer, out := playRead(r, c.locals, c.answers)
		if answer != c.answer || !alike(out, api.Out{Done: true, Accesses: c.asked, Locals: c.kept}) {
			t.Fatalf("%v: %d, %+v", c, answer, out)
		}
	}
}

// R1, R7: of a nil Mem, and of one that nobody played: nothing, and 0.
func TestNobodysMem(t *testing.T) {
	for _, m := range []*tape.Mem{nil, {}} {
		for _, x := range numbers() {
			for _, place := range []int{math.MinInt, -1, 0, 1, most, math.MaxInt - 17} {
				for _, r := range registers(place, place) {
					Write(m, r, x)
					Write(m, r, 1)
					if v := Read(m, r); v != 0 {
						t.Fatal(x, v)
					}
				}
			}
		}
	}
}
