package slots

import (
	"slices"
	"testing"

	"kevel/api"
	"kevel/bank"
)

// orders are all ways in which what happened may have been done one by one: a bit for each value of the number, how far the write is, and how far the read.
type orders uint32

// How far an operation is: there is none, it was not done yet, it was done; a read that was done has told 0 or 1.
const (
	none = iota
	begun
	done
	doneWith1
)

// way is one of the ways.
func way(value, write, read int) orders { return 1 << (value + 2*write + 6*read) }

// each are the ways that come of each way by a step.
func (o orders) each(step func(value, write, read int) orders) orders {
	var all orders
	for value := range 2 {
		for write := none; write <= done; write++ {
			for read := none; read <= doneWith1; read++ {
				if o&way(value, write, read) != 0 {
					all |= step(value, write, read)
				}
			}
		}
	}
	return all
}

// onward are the ways, and those that come of doing what has begun, in each order.
func (o orders) onward(next int) orders {
	for {
		more := o | o.each(func(value, write, read int) orders {
			var all orders
			if write == begun {
				all |= way(next, done, read)
			}
			if read == begun {
				all |= way(value, write, done+value)
			}
			return all
		})
		if more == o {
			return o
		}
		o = more
	}
}

// beginWrite begins a write.
func (o orders) beginWrite(next int) orders {
	return o.each(func(value, write, read int) orders { return way(value, begun, read) }).onward(next)
}

// endWrite ends it.
func (o orders) endWrite() orders {
	return o.each(func(value, write, read int) orders {
		if write != done {
			return 0
		}
		return way(value, none, read)
	})
}

// beginRead begins a read, while a write of next may be under way.
func (o orders) beginRead(next int) orders {
	return o.each(func(value, write, read int) orders { return way(value, write, begun) }).onward(next)
}

// endRead ends it: it told v. There is no way any more if it may not have told that.
func (o orders) endRead(v int) orders {
	return o.each(func(value, write, read int) orders {
		if read != done+v {
			return 0
		}
		return way(value, write, none)
	})
}

// The two threads: the writer and the reader of a number.
const (
	writer = iota
	reader
	threads
)

// theNumber is the one that is gone through.
func theNumber() api.Reg { return api.Reg{Kind: api.RegSlots, N: 2, Reader: 1, Top: 1} }

// ownLocals are a thread's locals of the number, as a set of bits: s0 and s1, and of each Tromp bit the first two or the last two.
func ownLocals(thread int) uint32 {
	const writers = 3 | 3<<2 | 3<<6 | 3<<10 | 3<<16
	if thread == writer {
		return writers
	}
	return (1<<18 - 1) &^ writers
}

// step is what a thread's operation is at: an access, and the step that comes by what it is told; or its end, with what it tells and its locals.
type step struct {
	thread int8
	over   bool
	told   int8
	locals uint32
	write  bool
	cell   int8
	val    int8
	next   [2]int32
}

// start is how an operation begins: the value that is written, if it is a write, and its thread's locals.
type start struct {
	thread int
	value  int
	locals uint32
}

// turning is a step that is to be seen in a mirror.
type turning struct {
	step int32
	by   mirror
}

// book has all steps that operations may be at, by their numbers: steps from which all goes on alike are one. The number 0 is of none.
type book struct {
	steps  []step
	ids    map[step]int32
	starts map[start]int32
	turned map[turning]int32
	costs  [threads][19]int
}

// newBook is an empty book.
func newBook() *book {
	return &book{steps: []step{{}}, ids: map[step]int32{}, starts: map[start]int32{}, turned: map[turning]int32{}}
}

// id is a step's number.
func (b *book) id(s step) int32 {
	id, is := b.ids[s]
	if !is {
		id = int32(len(b.steps))
		b.steps = append(b.steps, s)
		b.ids[s] = id
	}
	return id
}

// begin is the first step of an operation.
func (b *book) begin(s start) int32 {
	s.locals &= ownLocals(s.thread)
	if b.starts[s] == 0 {
		b.starts[s] = b.after(s, row(int(s.locals), 18, []int{0, 1}), nil)
	}
	return b.starts[s]
}

// after is the step that an operation is at behind some answers.
func (b *book) after(how start, locals, answers []int) int32 {
	var told int
	var out api.Out
	if how.thread == writer {
		out = playWrite(theNumber(), how.value, locals, answers)
	} else {
		told, out = playRead(theNumber(), locals, answers)
	}
	s := step{thread: int8(how.thread)}
	if out.Done {
		b.costs[how.thread][len(answers)]++
		s.over, s.told = true, int8(told)
		for i, v := range out.Locals {
			s.locals |= uint32(v) << i
		}
		return b.id(s)
	}
	a := out.Accesses[len(answers)]
	s.write, s.cell, s.val = a.Kind == api.AcWrite, int8(a.Cell), int8(a.Val)
	for v := range s.next {
		if v == 0 || !s.write {
			s.next[v] = b.after(how, locals, slices.Concat(answers, []int{v}))
		}
	}
	return b.id(s)
}

// mirror turns round what a number looks like, but not what it does: its bits 0 to 3 turn round W and R of the Tromp bits of that number (slot 0, slot 1, latest, reading), and its bits 4 and 5 the places of the pairs 0 and 1.
type mirror uint8

// mirrors is how many there are.
const mirrors = 1 << 6

// bits are the cells of bits that are turned round, counted from the first one.
func (g mirror) bits() uint16 {
	var set uint16
	for k := range 4 {
		set |= uint16(g>>k&1) * (6 << (3 * k))
	}
	return set | uint16(g>>4&1) | uint16(g>>5&1)<<3
}

// locals are the locals that are turned round.
func (g mirror) locals() uint32 {
	var set uint32
	for k := range 4 {
		set |= uint32(g>>k&1) * (6 << (2 + 4*k))
	}
	for p := range 2 {
		set |= uint32(g>>(4+p)&1) * (1<<p | 9<<(2+4*p))
	}
	return set
}

// data is where a data cell is seen.
func (g mirror) data(cell int8) int8 { return cell ^ int8(g>>(4+cell/2)&1) }

// turn is a step as it is seen in a mirror.
func (b *book) turn(id int32, g mirror) int32 {
	if id == 0 || g == 0 {
		return id
	}
	at := turning{step: id, by: g}
	if b.turned[at] == 0 {
		s := b.steps[id]
		for v := range s.next {
			s.next[v] = b.turn(s.next[v], g)
		}
		switch {
		case s.over:
			s.locals ^= g.locals() & ownLocals(int(s.thread))
		case s.cell < 4:
			s.cell = g.data(s.cell)
		case g.bits()>>(s.cell-4)&1 == 0:
		case s.write:
			s.val = 1 - s.val
		default:
			s.next[0], s.next[1] = s.next[1], s.next[0]
		}
		b.turned[at] = b.id(s)
	}
	return b.turned[at]
}

// state is all that there is of a number that one writes and one reads, who overlap one another in any way.
type state struct {
	data [4]int8
	bits uint16
	// locals are those of threads that have no operation: those of the others are told as it ends.
	locals uint32
	// at are the accesses that are under way; a read is overlapped if a write overlapped it.
	at         [threads]int32
	overlapped [threads]bool
	// value is what is being written.
	value  int8
	orders orders
}

// search goes through all states that there may be.
type search struct {
	t    *testing.T
	book *book
	seen map[state]bool
	left []state
	// overlapped counts the reads of cells that could tell anything, and sided the reads of data beside a write of the pair's other place.
	overlapped, sided int
}

// meet is a state that there may be; of all its mirrors' it is the one in which each W and each slot's V is 0.
func (s *search) meet(at state) {
	var g mirror
	for k := range 4 {
		g |= mirror(at.bits>>(3*k+1)&1) << k
	}
	for p := range 2 {
		g |= mirror(at.bits>>(3*p)&1) << (4 + p)
	}
	seen := at
	for cell := range int8(4) {
		seen.data[g.data(cell)] = at.data[cell]
	}
	seen.bits ^= g.bits()
	for thread, id := range at.at {
		if id == 0 {
			seen.locals ^= g.locals() & ownLocals(thread)
		}
		seen.at[thread] = s.book.turn(id, g)
	}
	if !s.seen[seen] {
		s.seen[seen] = true
		s.left = append(s.left, seen)
	}
}

// comes lets a thread come to its operation's next step.
func (s *search) comes(at state, thread int, id int32) {
	own := &s.book.steps[id]
	at.at[thread], at.overlapped[thread] = id, false
	if own.over {
		s.over(at, thread)
		return
	}
	if other := &s.book.steps[at.at[1-thread]]; at.at[1-thread] != 0 {
		same := other.cell == own.cell
		if same && own.cell < 4 && own.write != other.write {
			s.t.Fatalf("a data cell is read while it is written: %+v", at)
		}
		if own.cell < 4 && own.cell/2 == other.cell/2 {
			s.sided++
		}
		at.overlapped[thread] = same && other.write
		at.overlapped[1-thread] = at.overlapped[1-thread] || same && own.write
	}
	s.meet(at)
}

// over ends an operation.
func (s *search) over(at state, thread int) {
	end := &s.book.steps[at.at[thread]]
	if end.locals&^ownLocals(thread) != 0 {
		s.t.Fatal("an operation sets the other one's locals", at, end)
	}
	at.locals |= end.locals
	at.at[thread] = 0
	if thread == writer {
		at.orders = at.orders.endWrite()
		at.value = 0
	} else if at.orders = at.orders.endRead(int(end.told)); at.orders == 0 {
		s.t.Fatalf("%d is told, and there is no order: %+v", end.told, at)
	}
	s.meet(at)
}

// goOn is what a thread may do next: end its access, as its next one begins or its operation is over, or begin an operation with its first access. (An access that begins later overlaps less: all that it may tell it may tell so, too.)
func (s *search) goOn(at state, thread int) {
	own := s.book.steps[at.at[thread]]
	switch {
	case at.at[thread] == 0:
		s.begin(at, thread)
	case !own.write && at.overlapped[thread]:
		s.overlapped++
		s.comes(at, thread, own.next[0])
		s.comes(at, thread, own.next[1])
	case own.write && own.cell < 4:
		at.data[own.cell] = own.val
		s.comes(at, thread, own.next[0])
	case own.write:
		at.bits = at.bits&^(1<<(own.cell-4)) | uint16(own.val)<<(own.cell-4)
		s.comes(at, thread, own.next[0])
	case own.cell < 4:
		s.comes(at, thread, own.next[at.data[own.cell]])
	default:
		s.comes(at, thread, own.next[at.bits>>(own.cell-4)&1])
	}
}

// begin begins an operation: a read, or writes of each value.
func (s *search) begin(at state, thread int) {
	before := at
	at.locals &^= ownLocals(thread)
	if thread == reader {
		at.orders = before.orders.beginRead(int(at.value))
		s.comes(at, thread, s.book.begin(start{thread: thread, locals: before.locals}))
		return
	}
	for v := range 2 {
		at.value, at.orders = int8(v), before.orders.beginWrite(v)
		s.comes(at, thread, s.book.begin(start{thread: thread, value: v, locals: before.locals}))
	}
}

// A mirror turns round nothing that an operation does: of all locals, each operation is the mirror's, and so is what comes of it.
func TestMirrors(t *testing.T) {
	b := newBook()
	for thread := range threads {
		for number := range uint32(1 << 18) {
			if number&^ownLocals(thread) != 0 {
				continue
			}
			// A read has no value.
			for v := range threads - thread {
				id := b.begin(start{thread: thread, value: v, locals: number})
				for g := mirror(1); g < mirrors; g *= 2 {
					if b.turn(id, g) != b.begin(start{thread: thread, value: v, locals: number ^ g.locals()}) {
						t.Fatal(thread, number, v, g)
					}
				}
			}
		}
	}
}

// P14.3, P14.2: of all that may ever happen to a number of two values that one writes and one reads, whatever safe cells tell: no data cell is read while it is written, and reads and writes have one order.
func TestOneOrder(t *testing.T) {
	s := &search{t: t, book: newBook(), seen: map[state]bool{}}
	s.meet(state{orders: way(0, none, none)})
	for len(s.left) > 0 {
		at := s.left[len(s.left)-1]
		s.left = s.left[:len(s.left)-1]
		s.goOn(at, writer)
		s.goOn(at, reader)
	}
	t.Log(len(s.seen), "states;", len(s.book.steps), "steps; operations by their accesses", s.book.costs, "overlapped", s.overlapped, "sided", s.sided)
	if s.overlapped == 0 || s.sided == 0 {
		t.Fatal("not all was gone through")
	}
}

// real is a number of real cells, behind some cells and locals that are not its own.
type real struct {
	t      *testing.T
	bank   *bank.Bank
	reg    api.Reg
	locals [threads][]int
	ops    [threads]struct {
		going, at bool
		access    api.Access
		answers   []int
	}
	// big is what is written in place of 1, and next, 0 or 1, stands for what is being written.
	big, next int
	orders    orders
	costs     [threads][19]int
	// data counts the reads of data while data was written.
	data int
}

// newReal is a number at its beginning.
func newReal(t *testing.T, big int) *real {
	t.Helper()
	b, e := bank.New(append([]api.Strip{{Many: 2, Kind: api.CellAtomic, Top: 9}}, Strips()...))
	if e != api.OK {
		t.Fatal(e)
	}
	return &real{t: t, bank: b, reg: api.Reg{Kind: api.RegSlots, Base: 2, Local: 3, N: 2, Reader: 1, Top: api.MaxWord}, big: big, orders: way(0, none, none)}
}

// turn lets a thread begin an access, or end the one that is under way; it begins an operation, if there is none: a write of 0 or of big, or a read. It is whether an operation is over, and what it told.
func (r *real) turn(thread, v, draw int) (bool, int) {
	r.t.Helper()
	op := &r.ops[thread]
	switch {
	case op.at:
		got, e := r.bank.End(thread, draw)
		if e != api.OK {
			r.t.Fatal(e)
		}
		op.at = false
		op.answers = append(op.answers, got)
	case !op.going && thread == writer:
		op.going, r.next, r.orders = true, v, r.orders.beginWrite(v)
	case !op.going:
		op.going, r.orders = true, r.orders.beginRead(r.next)
	}
	told, out := 0, api.Out{}
	if thread == writer {
		out = playWrite(r.reg, r.next*r.big, r.locals[writer], op.answers)
	} else {
		told, out = playRead(r.reg, r.locals[reader], op.answers)
	}
	if !out.Done {
		r.begin(thread, out.Accesses[len(op.answers)])
		return false, 0
	}
	r.costs[thread][len(op.answers)]++
	r.locals[thread] = out.Locals
	op.going, op.answers = false, nil
	r.over(thread, told)
	return true, told
}

// begin begins an access.
func (r *real) begin(thread int, a api.Access) {
	r.t.Helper()
	if e := r.bank.Begin(thread, a); e != api.OK {
		r.t.Fatal(e)
	}
	op, other := &r.ops[thread], &r.ops[1-thread]
	op.at, op.access = true, a
	if !other.at || a.Cell >= r.reg.Base+4 || other.access.Cell >= r.reg.Base+4 {
		return
	}
	r.data++
	if a.Cell == other.access.Cell {
		r.t.Fatal("a data cell is read while it is written")
	}
}

// over ends an operation.
func (r *real) over(thread, told int) {
	r.t.Helper()
	if thread == writer {
		r.orders = r.orders.endWrite()
		return
	}
	if told != 0 && told != r.big {
		r.t.Fatal(told, "is told, which nobody wrote")
	}
	if r.orders = r.orders.endRead(told / r.big); r.orders == 0 {
		r.t.Fatal(told, "is told, and there is no order")
	}
}

// P14.3: of all rows of seven writes and reads, one behind the other, each read tells what was written last.
func TestWrittenIsRead(t *testing.T) {
	of := []int{0, 1, 2}
	for number := range rows(7, of) {
		r := newReal(t, api.MaxWord)
		last := 0
		for _, what := range row(number, 7, of) {
			thread := what / 2
			over, told := r.turn(thread, what, 5)
			for !over {
				over, told = r.turn(thread, what, 5)
			}
			if thread == writer {
				last = what * r.big
			} else if told != last {
				t.Fatal(row(number, 7, of), told, last)
			}
		}
	}
}

// P14.3: the same of real cells, and long rows of turns of the two, in which each goes on often or seldom.
func TestLongRows(t *testing.T) {
	seed := uint32(12345)
	next := func(below int) int {
		seed = seed*1664525 + 1013904223
		return int(seed>>8) % below
	}
	var most [threads]int
	data := 0
	for _, often := range []int{1, 2, 4, 8, 12, 14, 15} {
		for _, big := range []int{1, 300, api.MaxWord} {
			r := newReal(t, big)
			for range 30000 {
				thread := writer
				if next(16) < often {
					thread = reader
				}
				r.turn(thread, next(2), next(100)-50)
			}
			data += r.data
			for thread := range most {
				for cost, many := range r.costs[thread] {
					if many > 0 {
						most[thread] = max(most[thread], cost)
					}
				}
			}
		}
	}
	if most[writer] < 12 || most[reader] < 16 || data == 0 {
		t.Fatal("not all ways were gone", most, data)
	}
	t.Log("most accesses", most, "data read while data was written", data)
}
