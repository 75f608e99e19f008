package many

import (
	"slices"
	"testing"

	"kevel/api"
	"kevel/bank"
	"kevel/tape"
)

// mark is what a tabled number tells: a stamp, and a value.
type mark struct{ stamp, val int }

// doing is an operation of some thread, as far as it is: what the thread wrote last, what it writes now (0: it reads), what the others' numbers told it so far, and whether it has written its own one.
type doing struct {
	me, val int
	own     mark
	many    int
	seen    [api.MaxThreads]mark
	wrote   bool
}

// step is what an operation does next, as long as whole reads and writes of tabled numbers, which have one order (P15.3), are its steps.
type step struct {
	over, write bool
	// number is that which is read or written; of a write what is written, of one that is over what is told.
	number int
	mark   mark
}

// code is what all operations of a number do, step by step, as real code told it: up to 255.
type code struct {
	t     *testing.T
	reg   api.Reg
	known map[doing]step
}

// newCode is that of a number of so many threads.
func newCode(t *testing.T, n int) *code {
	return &code{t: t, reg: api.Reg{Kind: api.RegMany, N: n, Top: 255}, known: map[doing]step{}}
}

// next is what an operation does next.
func (c *code) next(o doing) step {
	s, is := c.known[o]
	if !is {
		s = c.played(o)
		c.known[o] = s
	}
	return s
}

// played plays it: of bits that were never written, and cells that tell what they are to tell, each write of one of k slotted numbers asks for eight accesses.
func (c *code) played(o doing) step {
	c.t.Helper()
	k := c.reg.N - 1
	locals := make([]int, 2+o.me*(2+18*k*k))
	locals[len(locals)-1] = o.own.stamp*256 + o.own.val
	var answers []int
	for _, m := range o.seen[:o.many] {
		answers = append(answers, tells(k, m.stamp*256+m.val)...)
	}
	if o.wrote {
		answers = append(answers, make([]int, 8*k)...)
	}
	v, out := c.play(o, locals, answers)
	if out.Done {
		return step{over: true, number: o.me, mark: mark{val: v}}
	}
	number, at := out.Accesses[len(answers)].Cell/(16*k*k), out.Accesses[len(answers)].Cell%16
	if at == 11 {
		return step{number: number}
	}
	_, out = c.play(o, locals, slices.Concat(answers, make([]int, 8*k)))
	access := out.Accesses[len(answers)+1]
	if at != 14 || access.Kind != api.AcWrite || access.Cell != number*16*k*k+3 {
		c.t.Fatal("an operation does something else than to read and write numbers", out)
	}
	x := access.Val % (1 << 20)
	return step{write: true, number: number, mark: mark{stamp: x / 256, val: x % 256}}
}

// play plays its real code.
func (c *code) play(o doing, locals, answers []int) (int, api.Out) {
	if o.val != 0 {
		return o.val, playWrite(c.reg, o.me, o.val, locals, answers)
	}
	return playRead(c.reg, o.me, locals, answers)
}

// hasOneOrder is whether operations of which no two write one value, and none writes 0, may have been done one by one, each between its beginning and its end, so that each read tells what was written last, at first 0. To is -1 of one that was never over: a write that may have been done, or a read that tells nothing.
//
// All operations with one value are done behind one another, its write first. So there is an order just if no read is over ahead of its write's beginning, and no two values are such that of each some operation is over ahead of the beginning of some operation of the other.
func hasOneOrder(l []api.Op) bool {
	const never = 1 << 40
	type span struct {
		written                    bool
		write, firstEnd, lastBegin int
	}
	spans := [256]span{{written: true, write: -2, firstEnd: -1, lastBegin: -2}}
	for i := 1; i < len(spans); i++ {
		spans[i] = span{firstEnd: never, lastBegin: -2}
	}
	told := map[int]struct{}{}
	for _, o := range l {
		s := &spans[o.Val]
		if o.Write {
			s.written, s.write = true, o.From
		}
		if o.To >= 0 {
			s.firstEnd, s.lastBegin = min(s.firstEnd, o.To), max(s.lastBegin, o.From)
			told[o.Val] = struct{}{}
		}
	}
	for val := range told {
		s := &spans[val]
		if !s.written || s.firstEnd <= s.write {
			return false
		}
		// A write that was never over has been done, if it was told.
		s.lastBegin = max(s.lastBegin, s.write)
	}
	for a := range spans {
		for b := range a {
			if spans[a].firstEnd <= spans[b].lastBegin && spans[b].firstEnd <= spans[a].lastBegin {
				return false
			}
		}
	}
	return true
}

// What the tests below hold histories against tells those that have one order from those that have none.
func TestHasOneOrder(t *testing.T) {
	w := func(val, from, to int) api.Op { return api.Op{From: from, To: to, Write: true, Val: val} }
	r := func(val, from, to int) api.Op { return api.Op{From: from, To: to, Val: val} }
	for _, c := range []struct {
		want bool
		l    []api.Op
	}{
		{true, nil},
		{true, []api.Op{r(0, 0, 1)}},
		{false, []api.Op{r(1, 0, 1)}},
		{true, []api.Op{w(1, 0, 1), r(1, 2, 3)}},
		{false, []api.Op{w(1, 0, 1), r(0, 2, 3)}},
		{true, []api.Op{w(1, 0, 3), r(0, 1, 2)}},
		{true, []api.Op{w(1, 0, 3), r(1, 1, 2)}},
		{false, []api.Op{r(1, 0, 1), w(1, 2, 3)}},
		{false, []api.Op{r(1, 0, 1), w(1, 2, -1)}},
		{true, []api.Op{w(1, 0, -1), r(1, 1, 2), r(1, 3, 4)}},
		{true, []api.Op{w(1, 0, -1), r(0, 1, 2), r(1, 3, 4)}},
		{true, []api.Op{w(1, 0, -1), r(0, 1, 4), r(1, 3, 5)}},
		{false, []api.Op{w(1, 0, -1), r(1, 1, 2), r(0, 3, 4)}},
		{true, []api.Op{w(1, 0, -1), r(0, 3, -1), w(2, 1, 2), r(2, 4, 5)}},
		{false, []api.Op{w(1, 0, 1), w(2, 2, 3), r(1, 4, 5)}},
		{true, []api.Op{w(1, 0, 3), w(2, 1, 2), r(1, 4, 5), r(1, 6, 7)}},
		{false, []api.Op{w(1, 0, 3), w(2, 1, 2), r(1, 4, 5), r(2, 6, 7)}},
		{false, []api.Op{w(1, 0, 5), w(2, 0, 5), r(1, 0, 1), r(2, 2, 3), r(1, 4, 5)}},
		{false, []api.Op{w(1, 0, 1), r(1, 6, 7), w(2, 2, 3), w(3, 4, -1)}},
		{true, []api.Op{w(1, 0, 1), r(1, 2, 9), w(2, 3, 4), w(3, 5, -1), r(3, 6, 7)}},
	} {
		if hasOneOrder(c.l) != c.want {
			t.Fatal(c.l, "has an order, or none")
		}
	}
}

// How many threads and writes there are at most where all states are gone through.
const (
	threadMany = 4
	writeMany  = 7
)

// busy is an operation that is under way: what was told to it is kept by values, each of which is written once.
type busy struct {
	going bool
	// val is what is written, 0 of a read.
	val, many int8
	seen      [threadMany - 1]int8
	// ahead are the values of which some operation was over ahead of its beginning, as a set of bits.
	ahead uint8
}

// state is all that there is of a number, and of what is known of the order of its values.
type state struct {
	// numbers are the values that the tabled numbers have, stamps the stamps that the values were written with.
	numbers [threadMany]int8
	stamps  [writeMany + 1]int8
	ops     [threadMany]busy
	// begun is how many writes began: these write 1, 2, and so on.
	begun int8
	// over are the values of which some operation was over; ahead are, for each value, those that are to be ahead of it.
	over  uint8
	ahead [writeMany + 1]uint8
}

// search goes through all states that there may be of a number.
type search struct {
	t      *testing.T
	code   *code
	writes int8
	seen   map[state]struct{}
	left   []state
}

// mark is a value with its stamp.
func (s *state) mark(val int8) mark { return mark{stamp: int(s.stamps[val]), val: int(val)} }

// doing is a thread's operation.
func (s *state) doing(me int) doing {
	o := &s.ops[me]
	d := doing{me: me, val: int(o.val), own: s.mark(s.numbers[me]), many: int(o.many)}
	for i, val := range o.seen[:o.many] {
		d.seen[i] = s.mark(val)
	}
	return d
}

// turn lets a thread do the next step of its operation; the first one begins it, the last one ends it, as one that begins earlier, or ends later, has each order that this one has.
func (s *search) turn(at state, me int) {
	o := &at.ops[me]
	d := at.doing(me)
	next := s.code.next(d)
	switch {
	case next.over:
		s.t.Fatal("an operation without a step", d)
	case !next.write:
		o.seen[o.many] = at.numbers[next.number]
		o.many++
		d = at.doing(me)
	default:
		if next.number != me || int8(next.mark.val) != o.val {
			s.t.Fatal("something else is written", d, next)
		}
		at.numbers[me], at.stamps[o.val] = o.val, int8(next.mark.stamp)
		d.wrote = true
	}
	if next = s.code.next(d); next.over {
		s.end(&at, me, int8(next.mark.val))
	}
	s.meet(at)
}

// end ends an operation that told a value, or wrote it: those of which one was over ahead of its beginning are ahead of it.
func (s *search) end(at *state, me int, val int8) {
	o := &at.ops[me]
	if val != 0 && at.stamps[val] == 0 {
		s.t.Fatal(val, "is told ahead of its writing", at)
	}
	for a := range s.writes + 1 {
		if a == val || o.ahead>>a&1 == 0 {
			continue
		}
		if at.ahead[a]>>val&1 != 0 {
			s.t.Fatalf("%d is told behind %d, and there is no order: %+v", val, a, *at)
		}
		at.ahead[val] |= 1 << a
	}
	at.over |= 1 << val
	*o = busy{}
}

// meet is a state that there may be.
func (s *search) meet(at state) {
	if _, is := s.seen[at]; !is {
		s.seen[at] = struct{}{}
		s.left = append(s.left, at)
	}
}

// through goes through all states.
func (s *search) through() {
	s.seen = map[state]struct{}{}
	s.meet(state{over: 1})
	for len(s.left) > 0 {
		at := s.left[len(s.left)-1]
		s.left = s.left[:len(s.left)-1]
		for me := range s.code.reg.N {
			if at.ops[me].going {
				s.turn(at, me)
				continue
			}
			read := at
			read.ops[me] = busy{going: true, ahead: at.over}
			s.turn(read, me)
			if at.begun < s.writes {
				write := at
				write.begun++
				write.ops[me] = busy{going: true, val: write.begun, ahead: at.over}
				s.turn(write, me)
			}
		}
	}
	s.t.Log(s.code.reg.N, "threads,", s.writes, "writes:", len(s.seen), "states")
}

// P16.3: of all that may ever happen to a number of two to four threads, with some writes and any many reads, reads and writes have one order.
func TestOneOrderOfAll(t *testing.T) {
	for n, writes := range map[int]int8{2: 7, 3: 4, 4: 2} {
		s := &search{t: t, code: newCode(t, n), writes: writes}
		s.through()
	}
}

// row is what happens to a number, and when it did.
type row struct {
	t     *testing.T
	reg   api.Reg
	clock int
	ops   []api.Op
	// at is which operation each thread has: -1, if it has none.
	at [api.MaxThreads]int
	// begun is how many writes began: these write 1, 2, and so on.
	begun int
}

// newRow is a row in which nothing happened yet.
func newRow(t *testing.T, reg api.Reg) row {
	r := row{t: t, reg: reg}
	for thread := range r.at {
		r.at[thread] = -1
	}
	return r
}

// begin begins an operation: a read, if no more is to be written.
func (r *row) begin(thread int, write bool) {
	o := api.Op{From: r.clock, To: -1, Write: write && r.begun < r.reg.Top, Thread: thread}
	if o.Write {
		r.begun++
		o.Val = r.begun
	}
	r.clock++
	r.at[thread] = len(r.ops)
	r.ops = append(r.ops, o)
}

// end ends an operation.
func (r *row) end(thread, told int) {
	o := &r.ops[r.at[thread]]
	o.To = r.clock
	if !o.Write {
		o.Val = told
	}
	r.clock++
	r.at[thread] = -1
}

// hold holds what happened against what there may be.
func (r *row) hold() {
	r.t.Helper()
	if !hasOneOrder(r.ops) {
		r.t.Fatal(r.reg.N, "threads: there is no order", r.ops)
	}
}

// real is a number of real cells, behind some cells and locals that are not its own.
type real struct {
	row
	bank    *bank.Bank
	locals  [api.MaxThreads][]int
	answers [api.MaxThreads][]int
	busy    [api.MaxThreads]bool
	most    [2]int
}

// newReal is a number at its beginning.
func newReal(t *testing.T, n, top int) *real {
	t.Helper()
	b, e := bank.New(append([]api.Strip{{Many: 2, Kind: api.CellAtomic, Top: 9}}, Strips(n)...))
	if e != api.OK {
		t.Fatal(e)
	}
	return &real{row: newRow(t, api.Reg{Kind: api.RegMany, Base: 2, Local: 3, N: n, Writer: api.None, Reader: api.None, Top: top}), bank: b}
}

// turn lets a thread begin an access, or end the one that is under way; it begins an operation, if there is none. It is whether an operation is over, and what it told.
func (r *real) turn(thread, draw int, write bool) (int, bool) {
	r.t.Helper()
	if r.busy[thread] {
		got, e := r.bank.End(thread, draw)
		if e != api.OK {
			r.t.Fatal(e)
		}
		r.busy[thread] = false
		r.answers[thread] = append(r.answers[thread], got)
	} else if r.at[thread] < 0 {
		r.begin(thread, write)
	}
	told, out, o := 0, api.Out{}, r.ops[r.at[thread]]
	if o.Write {
		out = playWrite(r.reg, thread, o.Val, r.locals[thread], r.answers[thread])
	} else {
		told, out = playRead(r.reg, thread, r.locals[thread], r.answers[thread])
	}
	if !out.Done {
		if e := r.bank.Begin(thread, out.Accesses[len(r.answers[thread])]); e != api.OK {
			r.t.Fatal(e)
		}
		r.busy[thread] = true
		return 0, false
	}
	kind := 0
	if o.Write {
		kind = 1
	}
	r.most[kind] = max(r.most[kind], len(out.Accesses))
	r.locals[thread], r.answers[thread] = out.Locals, nil
	r.end(thread, told)
	return told, true
}

// whole lets a thread do a whole operation, and is what it told.
func (r *real) whole(thread int, write bool) int {
	r.t.Helper()
	for {
		if told, over := r.turn(thread, 7, write); over {
			return told
		}
	}
}

// P16.3: of all rows of a few writes and reads, one behind the other, each read tells what was written last.
func TestWrittenIsRead(t *testing.T) {
	for n, many := range map[int]int{1: 8, 2: 6, 3: 4} {
		rows := 1
		for range many {
			rows *= 2 * n
		}
		for number := range rows {
			r := newReal(t, n, 9)
			for range many {
				kind := number % (2 * n)
				number /= 2 * n
				if told := r.whole(kind/2, kind%2 == 1); kind%2 == 0 && told != r.begun {
					t.Fatal(told, "is told", r.ops)
				}
			}
			r.hold()
		}
	}
}

// P16.3, P16.1: stamps have room for 4095 writes, each of which is read by all; behind these, each has the last stamp, and of all the last thread's tells the answer.
func TestStampsComeToTheirEnd(t *testing.T) {
	const last = 4095
	for n := 1; n <= 3; n++ {
		r := newReal(t, n, 200)
		marks := make([]mark, n)
		for number := 1; number < last+9; number++ {
			writer := number % n
			r.all(writer, func(m *tape.Mem) int { Write(m, r.reg, writer, number%201); return 0 })
			marks[writer] = mark{stamp: min(number, last), val: number % 201}
			want := mark{}
			for _, m := range marks {
				if m.stamp >= want.stamp {
					want = m
				}
			}
			if number <= last && want != marks[writer] {
				t.Fatal("a write is not the last one", marks)
			}
			if number < 50 || number > last-50 {
				r.allRead(want.val)
			}
		}
	}
}

// all plays an operation to its end, on the real cells, and keeps the locals.
func (r *real) all(thread int, do func(m *tape.Mem) int) int {
	r.t.Helper()
	var answers []int
	for {
		v, out := tape.Play(do, r.locals[thread], answers)
		if out.Done {
			r.locals[thread] = out.Locals
			return v
		}
		e := r.bank.Begin(thread, out.Accesses[len(answers)])
		got, f := r.bank.End(thread, 0)
		if e != api.OK || f != api.OK {
			r.t.Fatal(e, f)
		}
		answers = append(answers, got)
	}
}

// allRead lets all read what is to be told.
func (r *real) allRead(want int) {
	r.t.Helper()
	for thread := range r.reg.N {
		if v := r.all(thread, func(m *tape.Mem) int { return Read(m, r.reg, thread) }); v != want {
			r.t.Fatal(thread, "reads", v, "in place of", want)
		}
	}
}

// sleepers are how often threads go on, which changes from time to time: all but some sleep for a while.
type sleepers struct {
	dice  *dice
	often [api.MaxThreads]int
}

// round is another round.
func (s *sleepers) round(number int) {
	if number%50 == 0 {
		for thread := range s.often {
			s.often[thread] = []int{0, 1, 3, 9, 9}[s.dice.below(5)]
		}
	}
}

// wakes is whether a thread goes on now.
func (s *sleepers) wakes(thread int) bool { return s.dice.below(9) < s.often[thread] }

// P16.3, P16.2: of long rows of turns of two to eight threads, in which each goes on often or seldom, writes and reads have one order.
func TestLongRows(t *testing.T) {
	d := dice(6)
	for n := 2; n <= api.MaxThreads; n++ {
		most, ops := [2]int{}, 0
		for range 3 {
			r, s := newReal(t, n, 255), sleepers{dice: &d}
			for round := range 16000 / n {
				s.round(round)
				for thread := range n {
					if s.wakes(thread) {
						r.turn(thread, d.below(100)-50, d.below(2) == 0)
					}
				}
			}
			r.hold()
			most[0], most[1], ops = max(most[0], r.most[0]), max(most[1], r.most[1]), ops+len(r.ops)
		}
		if most[0] > cost(n, false) || most[1] > cost(n, true) || ops < 30 {
			t.Fatal(n, most, ops)
		}
		t.Log(n, "threads,", ops, "operations, most accesses", most)
	}
}

// P16.3: the same, where tabled numbers are read and written in one step.
func TestLongRowsOfSteps(t *testing.T) {
	d := dice(9)
	for n := 2; n <= api.MaxThreads; n++ {
		ties := 0
		for range 10 {
			c := newCode(t, n)
			r, s := newRow(t, c.reg), sleepers{dice: &d}
			var numbers [api.MaxThreads]mark
			var ops [api.MaxThreads]doing
			for round := range 200 {
				s.round(round)
				for thread := range n {
					if s.wakes(thread) {
						r.step(c, &numbers, &ops[thread], thread, d.below(2) == 0)
						ties += tied(numbers[:n], thread)
					}
				}
			}
			r.hold()
		}
		if ties == 0 {
			t.Fatal("no two threads took one stamp", n)
		}
		t.Log(n, "threads,", ties, "times one stamp of two")
	}
}

// tied is 1, if a thread's stamp is another one's, too.
func tied(numbers []mark, thread int) int {
	for j, m := range numbers {
		if j != thread && m.stamp > 0 && m.stamp == numbers[thread].stamp {
			return 1
		}
	}
	return 0
}

// step lets a thread do a step of an operation; it begins one, if there is none.
func (r *row) step(c *code, numbers *[api.MaxThreads]mark, o *doing, thread int, write bool) {
	r.t.Helper()
	if r.at[thread] < 0 {
		r.begin(thread, write)
		*o = doing{me: thread, val: r.ops[r.at[thread]].Val, own: numbers[thread]}
	}
	next := c.played(*o)
	switch {
	case next.over:
		r.t.Fatal("an operation without a step", *o)
	case !next.write:
		o.seen[o.many] = numbers[next.number]
		o.many++
	default:
		numbers[next.number] = next.mark
		o.wrote = true
	}
	if next = c.played(*o); next.over {
		r.end(thread, next.mark.val)
	}
}
