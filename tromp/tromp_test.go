package tromp

import (
	"math"
	"slices"
	"testing"

	"kevel/api"
	"kevel/bank"
	"kevel/tape"
)

// most is how many locals there are.
const most = 32768

// numbers are values that are handed in, and answers: any number is one. Some have a bit's lower bits.
func numbers() []int {
	return []int{math.MinInt, -1 << 32, -256, -2, -1, 0, 1, 2, 3, 255, 256, 1 << 16, 1 << 32, 1<<32 + 1, 1 << 41, 1 << 62, math.MaxInt}
}

// registers are bits at one place: the fields that are no place play no part.
func registers(base, local int) []api.Reg {
	return []api.Reg{
		{Base: base, Local: local},
		{Kind: api.RegTromp, Base: base, Local: local, N: 2, Writer: 0, Reader: 1, Top: 1},
		{Kind: api.RegMany, Base: base, Local: local, N: 8, Writer: 7, Reader: 3, Top: 255},
		{Kind: -1, Base: base, Local: local, N: -5, Writer: -9, Reader: math.MinInt, Top: -1},
	}
}

// playWrite plays a write.
func playWrite(r api.Reg, v int, locals, answers []int) api.Out {
	_, out := tape.Play(func(m *tape.Mem) int { Write(m, r, v); return 0 }, locals, answers)
	return out
}

// playRead plays a read.
func playRead(r api.Reg, locals, answers []int) (int, api.Out) {
	return tape.Play(func(m *tape.Mem) int { return Read(m, r) }, locals, answers)
}

// alike is whether what came of two operations is the same; lists that are nil are empty ones.
func alike(a, b api.Out) bool {
	return a.Done == b.Done && slices.Equal(a.Accesses, b.Accesses) && slices.Equal(a.Notes, b.Notes) && slices.Equal(a.Locals, b.Locals)
}

// told is an operation as the document tells it: a line of steps, each of which an answer lets go on.
type told struct {
	r       api.Reg
	locals  []int
	answers []int
	asked   []api.Access
	stopped bool
}

// tell begins to tell an operation.
func tell(r api.Reg, locals, answers []int) *told {
	// Room for all four, where there are any; more would be noughts that nobody sees.
	missing := 0
	if r.Local < most {
		missing = min(max(r.Local+4-len(locals), 0), most-len(locals))
	}
	return &told{r: r, locals: slices.Concat(locals, make([]int, missing)), answers: answers}
}

// get is a local of the bit.
func (o *told) get(i int) int {
	if at := o.r.Local + i; at >= 0 && at < most {
		return o.locals[at]
	}
	return 0
}

// set sets a local of the bit.
func (o *told) set(i, v int) {
	if at := o.r.Local + i; at >= 0 && at < most && !o.stopped {
		o.locals[at] = v
	}
}

// ask asks for an access of a cell of the bit.
func (o *told) ask(kind, cell, v int) int {
	if o.stopped {
		return 0
	}
	o.asked = append(o.asked, api.Access{Kind: kind, Cell: o.r.Base + cell, Val: v})
	if len(o.asked) > len(o.answers) {
		o.stopped = true
		return 0
	}
	return o.answers[len(o.asked)-1]
}

// out is what came of it.
func (o *told) out() api.Out {
	return api.Out{Done: !o.stopped, Accesses: o.asked, Locals: tape.Short(o.locals)}
}

// wantWrite is what is to come of a write.
func wantWrite(r api.Reg, v int, locals, answers []int) api.Out {
	o := tell(r, locals, answers)
	b := 1
	if v == 0 {
		b = 0
	}
	if o.get(0) != b {
		o.ask(api.AcWrite, 0, b)
		o.set(0, b)
		if w := o.get(1); o.ask(api.AcRead, 2, 0) == w && !o.stopped {
			o.ask(api.AcWrite, 1, 1-w)
			o.set(1, 1-w)
		}
	}
	return o.out()
}

// wantRead is what is to come of a read.
func wantRead(r api.Reg, locals, answers []int) (int, api.Out) {
	o := tell(r, locals, answers)
	x, isX := 0, false
	for step := 1; step <= 6 && !o.stopped; step++ {
		cell := 1
		if step%2 == 0 {
			cell = 0
		}
		got := o.ask(api.AcRead, cell, 0)
		switch {
		case o.stopped:
		case step == 2:
			x = got
		case step == 3 && got != o.get(2):
			was := o.get(2)
			o.ask(api.AcWrite, 2, 1-was)
			o.set(2, 1-was)
		case step == 4, step == 6:
			o.set(3, got)
			isX = step == 6
		case step != 3 && got == o.get(2):
			return o.get(3), o.out()
		}
	}
	if !isX || o.stopped {
		return 0, o.out()
	}
	return x, o.out()
}

// holdWrite plays a write, and holds what comes of it against what is told of it.
func holdWrite(t *testing.T, r api.Reg, v int, locals, answers []int) int {
	t.Helper()
	given, before := slices.Clone(locals), slices.Clone(answers)
	want := wantWrite(r, v, locals, answers)
	out := playWrite(r, v, locals, answers)
	if !alike(out, want) {
		t.Fatalf("write of %d into %+v, locals %v, answers %v: %+v in place of %+v", v, r, locals, answers, out, want)
	}
	if !slices.Equal(locals, given) || !slices.Equal(answers, before) {
		t.Fatal("a write wrote into what was handed in")
	}
	if len(out.Accesses) > 3 {
		t.Fatal("a write of more than three accesses:", out)
	}
	return len(out.Accesses)
}

// holdRead plays a read, and holds what comes of it against what is told of it.
func holdRead(t *testing.T, r api.Reg, locals, answers []int) int {
	t.Helper()
	given, before := slices.Clone(locals), slices.Clone(answers)
	want, wantOut := wantRead(r, locals, answers)
	v, out := playRead(r, locals, answers)
	if v != want || !alike(out, wantOut) {
		t.Fatalf("read of %+v, locals %v, answers %v: %d, %+v in place of %d, %+v", r, locals, answers, v, out, want, wantOut)
	}
	if !slices.Equal(locals, given) || !slices.Equal(answers, before) {
		t.Fatal("a read wrote into what was handed in")
	}
	if len(out.Accesses) > 7 {
		t.Fatal("a read of more than seven accesses:", out)
	}
	return len(out.Accesses)
}

// row is the row of so many numbers out of those that there are, of that number.
func row(number, many int, of []int) []int {
	var all []int
	for range many {
		all = append(all, of[number%len(of)])
		number /= len(of)
	}
	return all
}

// rows is how many rows there are of so many numbers.
func rows(many int, of []int) int {
	all := 1
	for range many {
		all *= len(of)
	}
	return all
}

// P13.1: its cells are one strip of three safe ones up to 1, its locals four; whoever asked may write into the list.
func TestStrips(t *testing.T) {
	want := []api.Strip{{Many: 3, Kind: api.CellSafe, Top: 1}}
	for range 3 {
		l := Strips()
		if !slices.Equal(l, want) || Locals() != 4 {
			t.Fatal(l, Locals())
		}
		_ = append(l, api.Strip{Many: 5})
		l[0] = api.Strip{Many: 9, Kind: api.CellAtomic, Top: 7}
	}
	if n, e := bank.Count(Strips()); n != 3 || e != api.OK {
		t.Fatal(n, e)
	}
}

// P13.1, P13.2: a write, with all locals and answers there may be and some that are no bits, with each number of answers up to two too many.
func TestWrite(t *testing.T) {
	of := []int{0, 1, 2, -1}
	costs := map[int]bool{}
	for local := range rows(4, of) {
		for _, at := range []int{0, 3} {
			locals := slices.Concat(slices.Repeat([]int{9}, at), row(local, 4, of), []int{1, 0, 7})
			for many := range 6 {
				for answer := range rows(min(many, 2), of) {
					answers := slices.Concat(row(answer, min(many, 2), of), slices.Repeat([]int{1}, max(many-2, 0)))
					for _, r := range registers(7, at) {
						for v := -2; v < 3; v++ {
							costs[holdWrite(t, r, v, locals, answers)] = true
						}
					}
				}
			}
		}
	}
	if !costs[0] || !costs[2] || !costs[3] {
		t.Fatal(costs)
	}
}

// P13.1, P13.2: a read, with all locals and answers there may be and some that are no bits, with each number of answers up to two too many.
func TestRead(t *testing.T) {
	costs := map[int]bool{}
	hold := func(of []int, most int) {
		for local := range rows(2, of) {
			for many := range most {
				for answer := range rows(many, of) {
					for _, at := range []int{0, 3} {
						locals := slices.Concat(slices.Repeat([]int{9}, at), []int{1, 0}, row(local, 2, of), []int{1, 0, 7})
						r := registers(7, at)
						costs[holdRead(t, r[(local+answer)%len(r)], locals, row(answer, many, of))] = true
					}
				}
			}
		}
	}
	hold([]int{0, 1}, 10)
	hold([]int{0, 1, 2}, 8)
	for cost := 1; cost <= 7; cost++ {
		if !costs[cost] {
			t.Fatal("no read costs", cost)
		}
	}
}

// P13.1: any number but 0 counts as 1; what is answered to writes plays no part.
func TestWriteOfAnyNumber(t *testing.T) {
	for _, v := range numbers() {
		for _, a := range numbers() {
			for _, locals := range [][]int{nil, {1}, {0, 1}, {1, 1}, {1, 1, 1, 1, 1}, {5, 0, 3}} {
				for _, r := range registers(0, 0) {
					holdWrite(t, r, v, locals, []int{a, 0, a})
					holdWrite(t, r, v, locals, []int{a, 1, a})
					holdWrite(t, r, v, locals, []int{0, a, 0})
				}
			}
		}
	}
}

// P13.1: answers and locals that are no bits are held against one another, kept, and told as they are.
func TestAnyAnswersAndLocals(t *testing.T) {
	r := api.Reg{Kind: api.RegTromp, Base: 3, Local: 1, N: 2, Reader: 1, Top: 1}
	for _, a := range numbers() {
		for _, b := range numbers() {
			for v := range 2 {
				holdWrite(t, r, v, []int{3, a, b, a, b, 3}, []int{0, a, 0})
				holdWrite(t, r, v, []int{3, a, b, a, b, 3}, []int{0, b, 0})
			}
			for bits := range 1 << 7 {
				answers := row(bits, 7, []int{a, b})
				holdRead(t, r, []int{3, b, a, a, b, 3}, answers)
				holdRead(t, r, []int{3, b, a, b, a}, answers)
				holdRead(t, r, nil, answers)
			}
		}
	}
}

// P13.1: cells are where they are told to be, be that no place where cells lie.
func TestPlacesOfCells(t *testing.T) {
	for _, base := range []int{0, 1, 32767, 32768, -1, -2, -3, -1 << 32, math.MinInt, math.MaxInt - 2} {
		for _, r := range registers(base, 2) {
			for many := range 9 {
				for bits := range 1 << many {
					holdRead(t, r, []int{5, 5, 1, 1, 0, 1}, row(bits, many, []int{0, 1}))
					holdWrite(t, r, bits, []int{5, 5, 1, 1, 0, 1}, row(bits, many, []int{0, 1}))
				}
			}
		}
	}
}

// P13.1: the last locals that there are are ones, and those beyond are none: they are 0, whatever was written there.
func TestEdgesOfLocals(t *testing.T) {
	full := slices.Repeat([]int{1}, most)
	for _, local := range []int{most - 5, most - 4, most - 3, most - 2, most - 1, most, most + 1, -1, -2, -3, -4, -5, -9, math.MinInt, math.MaxInt - 3} {
		r := api.Reg{Kind: api.RegTromp, Base: 5, Local: local, N: 2, Reader: 1, Top: 1}
		for many := range 8 {
			for _, bits := range []int{0, 1, 2, 4, 5, 21, 37, 85, 127} {
				for _, locals := range [][]int{nil, {1, 1, 1}, full} {
					holdRead(t, r, locals, row(bits, many, []int{0, 1}))
					holdWrite(t, r, bits%2, locals, row(bits, many, []int{0, 1}))
				}
			}
		}
	}
	r := api.Reg{Base: 5, Local: most - 4}
	_, out := playRead(r, nil, []int{1, 1, 1, 0, 1, 1})
	if !out.Done || len(out.Locals) != most || !slices.Equal(out.Locals[most-4:], []int{0, 0, 1, 1}) {
		t.Fatal(out.Done, len(out.Locals))
	}
}

// P13.1: the example, at first a read costs one access: 0; the document's own, too.
func TestExample(t *testing.T) {
	for _, r := range registers(4, 2) {
		v, out := playRead(r, nil, []int{0})
		if want := (api.Out{Done: true, Accesses: []api.Access{{Kind: api.AcRead, Cell: 5}}}); v != 0 || !alike(out, want) {
			t.Fatal(v, out)
		}
		if out := playWrite(r, 0, nil, nil); !alike(out, api.Out{Done: true}) {
			t.Fatal("at first it is 0, so that a write of 0 is nothing", out)
		}
	}
}

// P13.1: each row of what the chapter tells, access by access, written out.
func TestStepByStep(t *testing.T) {
	r := api.Reg{Kind: api.RegTromp, Base: 10, Local: 1, Reader: 1, Top: 1}
	v, w, own := api.Access{Kind: api.AcRead, Cell: 10}, api.Access{Kind: api.AcRead, Cell: 11}, api.Access{Kind: api.AcWrite, Cell: 12}
	own1 := api.Access{Kind: api.AcWrite, Cell: 12, Val: 1}
	for _, c := range []struct {
		locals, answers []int
		answer          int
		asked           []api.Access
		kept            []int
	}{
		{[]int{8, 1, 1, 0, 1}, []int{0}, 1, []api.Access{w}, []int{8, 1, 1, 0, 1}},
		{[]int{8, 1, 1, 1, 0}, []int{1}, 0, []api.Access{w}, []int{8, 1, 1, 1}},
		{[]int{8, 1, 1, 0, 0}, []int{1, 1, 0, 1, 0}, 1, []api.Access{w, v, w, v, w}, []int{8, 1, 1, 0, 1}},
		{[]int{8, 1, 1, 0, 0}, []int{1, 0, 1, 9, 1, 1}, 1, []api.Access{w, v, w, own1, v, w}, []int{8, 1, 1, 1, 1}},
		{[]int{8, 1, 1, 1, 1}, []int{0, 1, 0, 9, 0, 0}, 0, []api.Access{w, v, w, own, v, w}, []int{8, 1, 1}},
		{[]int{8, 1, 1, 0, 0}, []int{1, 1, 0, 0, 1, 0}, 1, []api.Access{w, v, w, v, w, v}, []int{8, 1, 1}},
		{[]int{8, 1, 1, 0, 1}, []int{1, 0, 1, 9, 0, 0, 1}, 0, []api.Access{w, v, w, own1, v, w, v}, []int{8, 1, 1, 1, 1}},
	} {
		answer, out := playRead(r, c.locals, c.answers)
		if answer != c.answer || !alike(out, api.Out{Done: true, Accesses: c.asked, Locals: c.kept}) {
			t.Fatal(c, answer, out)
		}
	}
	readR := api.Access{Kind: api.AcRead, Cell: 12}
	for _, c := range []struct {
		b               int
		locals, answers []int
		asked           []api.Access
		kept            []int
	}{
		{0, []int{8, 0, 1, 1, 1}, nil, nil, []int{8, 0, 1, 1, 1}},
		{1, []int{8, 0, 0, 1, 1}, []int{9, 1}, []api.Access{{Kind: api.AcWrite, Cell: 10, Val: 1}, readR}, []int{8, 1, 0, 1, 1}},
		{0, []int{8, 1, 0, 0, 0}, []int{9, 0, 9}, []api.Access{{Kind: api.AcWrite, Cell: 10}, readR, {Kind: api.AcWrite, Cell: 11, Val: 1}}, []int{8, 0, 1}},
		{1, []int{8, 0, 1, 0, 0}, []int{9, 1, 9}, []api.Access{{Kind: api.AcWrite, Cell: 10, Val: 1}, readR, {Kind: api.AcWrite, Cell: 11}}, []int{8, 1}},
	} {
		if out := playWrite(r, c.b, c.locals, c.answers); !alike(out, api.Out{Done: true, Accesses: c.asked, Locals: c.kept}) {
			t.Fatal(c, out)
		}
	}
}

// R1, R7: of a nil Mem, and of one that nobody played: nothing, and 0.
func TestNobodysMem(t *testing.T) {
	for _, m := range []*tape.Mem{nil, {}} {
		for _, x := range numbers() {
			for _, place := range []int{math.MinInt, -1, 0, 1, most, math.MaxInt - 3} {
				for _, r := range registers(place, place) {
					Write(m, r, x)
					Write(m, r, 1)
					if v := Read(m, r); v != 0 {
						t.Fatal(x, v)
					}
				}
			}
		}
	}
}

// orders are all ways in which what happened may have been done one by one: a bit for each value of the bit, how far the write is, and how far the read.
type orders uint32

// How far an operation is: there is none, it was not done yet, it was done; a read that was done has told 0 or 1.
const (
	none = iota
	begun
	done
	doneWith1
)

// way is one of the ways.
func way(value, write, read int) orders { return 1 << (value + 2*write + 6*read) }

// each are the ways that come of each way by a step.
func (o orders) each(step func(value, write, read int) orders) orders {
	var all orders
	for value := range 2 {
		for write := none; write <= done; write++ {
			for read := none; read <= doneWith1; read++ {
				if o&way(value, write, read) != 0 {
					all |= step(value, write, read)
				}
			}
		}
	}
	return all
}

// onward are the ways, and those that come of doing what has begun, in each order.
func (o orders) onward(next int) orders {
	for {
		more := o | o.each(func(value, write, read int) orders {
			var all orders
			if write == begun {
				all |= way(next, done, read)
			}
			if read == begun {
				all |= way(value, write, done+value)
			}
			return all
		})
		if more == o {
			return o
		}
		o = more
	}
}

// beginWrite begins a write.
func (o orders) beginWrite(next int) orders {
	return o.each(func(value, write, read int) orders { return way(value, begun, read) }).onward(next)
}

// endWrite ends it.
func (o orders) endWrite() orders {
	return o.each(func(value, write, read int) orders {
		if write != done {
			return 0
		}
		return way(value, none, read)
	})
}

// beginRead begins a read, while a write of next may be under way.
func (o orders) beginRead(next int) orders {
	return o.each(func(value, write, read int) orders { return way(value, write, begun) }).onward(next)
}

// endRead ends it: it told v. There is no way any more if it may not have told that.
func (o orders) endRead(v int) orders {
	return o.each(func(value, write, read int) orders {
		if read != done+v {
			return 0
		}
		return way(value, write, none)
	})
}

// one is a thread's operation that is under way, if there is one.
type one struct {
	going bool
	// at is whether an access of it is under way, of that kind; overlapped is whether a write overlapped it, if it is a read.
	at         bool
	access     api.Access
	overlapped bool
	answers    [7]int
	many       int
}

// state is all that there is of a bit that one writes and one reads, who overlap one another in any way.
type state struct {
	cells  [3]int
	locals [4]int
	// ops are the writer's and the reader's.
	ops [2]one
	// next is what is being written.
	next   int
	orders orders
}

// search goes through all states that there may be.
type search struct {
	t    *testing.T
	seen map[state]bool
	left []state
	// costs counts the operations by their accesses, and overlapped the reads of cells that could tell anything.
	costs      [2][8]int
	overlapped int
}

// theBit is the bit that is gone through.
func theBit() api.Reg { return api.Reg{Kind: api.RegTromp, N: 2, Reader: 1, Top: 1} }

// meet is a state that there may be.
func (s *search) meet(next state) {
	if !s.seen[next] {
		s.seen[next] = true
		s.left = append(s.left, next)
	}
}

// play plays a thread's operation as far as it got.
func (at *state) play(thread int) (int, api.Out) {
	op := &at.ops[thread]
	if thread == 0 {
		return 0, playWrite(theBit(), at.next, at.locals[:], op.answers[:op.many])
	}
	return playRead(theBit(), at.locals[:], op.answers[:op.many])
}

// goOn lets an operation that is no access begin its next one, or be over.
func (s *search) goOn(at state, thread int) {
	op := &at.ops[thread]
	v, out := at.play(thread)
	if out.Done {
		s.over(at, thread, v, out)
		return
	}
	a := out.Accesses[op.many]
	if (a.Kind == api.AcWrite) != (thread == 0 && a.Cell < 2 || thread == 1 && a.Cell == 2) {
		s.t.Fatal("the thread", thread, "does", a)
	}
	other := &at.ops[1-thread]
	op.at, op.access, op.overlapped = true, a, false
	if other.at && other.access.Cell == a.Cell {
		op.overlapped = other.access.Kind == api.AcWrite
		other.overlapped = a.Kind == api.AcWrite
	}
	s.meet(at)
}

// over ends an operation.
func (s *search) over(at state, thread, v int, out api.Out) {
	s.costs[thread][at.ops[thread].many]++
	own := append(slices.Clone(out.Locals), make([]int, 4)...)[2*thread : 2*thread+2]
	others := append(slices.Clone(out.Locals), make([]int, 4)...)[2-2*thread : 4-2*thread]
	if !slices.Equal(others, at.locals[2-2*thread:4-2*thread]) {
		s.t.Fatal("an operation sets the other one's locals", at, out)
	}
	copy(at.locals[2*thread:], own)
	at.ops[thread] = one{}
	if thread == 0 {
		at.orders = at.orders.endWrite()
		at.next = 0
	} else if at.orders = at.orders.endRead(v); at.orders == 0 {
		s.t.Fatalf("%d is told, and there is no order: %+v", v, at)
	}
	s.meet(at)
}

// end ends an access, with what it is told, and lets the operation end, if it was the last one.
func (s *search) end(at state, thread, v int) {
	op := &at.ops[thread]
	if op.access.Kind == api.AcWrite {
		at.cells[op.access.Cell] = op.access.Val
	}
	op.answers[op.many] = v
	op.many++
	op.at, op.access, op.overlapped = false, api.Access{}, false
	if v, out := at.play(thread); out.Done {
		s.over(at, thread, v, out)
		return
	}
	s.meet(at)
}

// turn is what a thread may do next.
func (s *search) turn(at state, thread int) {
	op := &at.ops[thread]
	switch {
	case op.at && op.overlapped && op.access.Kind == api.AcRead:
		s.overlapped++
		s.end(at, thread, 0)
		s.end(at, thread, 1)
	case op.at && op.access.Kind == api.AcRead:
		s.end(at, thread, at.cells[op.access.Cell])
	case op.at:
		s.end(at, thread, 0)
	case op.going:
		s.goOn(at, thread)
	case thread == 1:
		op.going = true
		at.orders = at.orders.beginRead(at.next)
		s.goOn(at, thread)
	default:
		op.going = true
		begun := at.orders
		for v := range 2 {
			at.next, at.orders = v, begun.beginWrite(v)
			s.goOn(at, thread)
		}
	}
}

// P13.3, P13.2: of all that may ever happen to a bit that one writes and one reads, whatever safe cells tell, reads and writes have one order.
func TestOneOrder(t *testing.T) {
	s := &search{t: t, seen: map[state]bool{}}
	s.meet(state{orders: way(0, none, none)})
	for len(s.left) > 0 {
		at := s.left[len(s.left)-1]
		s.left = s.left[:len(s.left)-1]
		s.turn(at, 0)
		s.turn(at, 1)
	}
	t.Log(len(s.seen), "states; operations by their accesses", s.costs, "overlapped", s.overlapped)
	if s.costs[0][3] == 0 || s.costs[1][7] == 0 || s.overlapped == 0 {
		t.Fatal("not all was gone through", s.costs, s.overlapped)
	}
}

// real is a bit of real cells, behind some cells and locals that are not its own.
type real struct {
	t      *testing.T
	bank   *bank.Bank
	reg    api.Reg
	locals [2][]int
	ops    [2]struct {
		going, at bool
		answers   []int
	}
	next   int
	orders orders
	costs  [2][8]int
}

// newReal is a bit at its beginning.
func newReal(t *testing.T) *real {
	t.Helper()
	b, e := bank.New(append([]api.Strip{{Many: 2, Kind: api.CellAtomic, Top: 9}}, Strips()...))
	if e != api.OK {
		t.Fatal(e)
	}
	return &real{t: t, bank: b, reg: api.Reg{Kind: api.RegTromp, Base: 2, Local: 3, N: 2, Reader: 1, Top: 1}, orders: way(0, none, none)}
}

// turn lets a thread begin an access, or end the one that is under way; it begins an operation, if there is none, a write of v, or a read. It is whether an operation is over, and what it told.
func (r *real) turn(thread, v, draw int) (bool, int) {
	r.t.Helper()
	op := &r.ops[thread]
	switch {
	case op.at:
		got, e := r.bank.End(thread, draw)
		if e != api.OK {
			r.t.Fatal(e)
		}
		op.at = false
		op.answers = append(op.answers, got)
	case !op.going && thread == 0:
		op.going, r.next, r.orders = true, v, r.orders.beginWrite(v)
	case !op.going:
		op.going, r.orders = true, r.orders.beginRead(r.next)
	}
	var told int
	var out api.Out
	if thread == 0 {
		out = playWrite(r.reg, r.next, r.locals[0], op.answers)
	} else {
		told, out = playRead(r.reg, r.locals[1], op.answers)
	}
	if !out.Done {
		if e := r.bank.Begin(thread, out.Accesses[len(op.answers)]); e != api.OK {
			r.t.Fatal(e)
		}
		op.at = true
		return false, 0
	}
	r.costs[thread][len(op.answers)]++
	r.locals[thread] = out.Locals
	op.going, op.answers = false, nil
	if thread == 0 {
		r.orders = r.orders.endWrite()
	} else if r.orders = r.orders.endRead(told); r.orders == 0 {
		r.t.Fatal(told, "is told, and there is no order")
	}
	return true, told
}

// P13.3: of all rows of ten writes and reads, one behind the other, each read tells what was written last.
func TestWrittenIsRead(t *testing.T) {
	of := []int{0, 1, 2}
	for number := range rows(10, of) {
		r := newReal(t)
		last := 0
		for _, what := range row(number, 10, of) {
			thread := what / 2
			over, told := r.turn(thread, what, 5)
			for !over {
				over, told = r.turn(thread, what, 5)
			}
			if thread == 0 {
				last = what
			} else if told != last {
				t.Fatal(row(number, 10, of), told, last)
			}
		}
	}
}

// P13.3: the same of real cells, and long rows of turns of the two, in which each goes on often or seldom.
func TestLongRows(t *testing.T) {
	seed := uint32(12345)
	next := func(below int) int {
		seed = seed*1664525 + 1013904223
		return int(seed>>8) % below
	}
	var costs [2][8]int
	for _, often := range []int{1, 2, 4, 8, 12, 14, 15} {
		r := newReal(t)
		for range 30000 {
			thread := 0
			if next(16) < often {
				thread = 1
			}
			r.turn(thread, next(2), next(100)-50)
		}
		for i := range costs {
			for j, n := range r.costs[i] {
				costs[i][j] += n
			}
		}
	}
	if costs[0][2] == 0 || costs[0][3] == 0 || costs[1][1] == 0 || costs[1][6] == 0 || costs[1][7] == 0 {
		t.Fatal("not all ways were gone", costs)
	}
}
