package table

import (
	"slices"
	"testing"

	"kevel/api"
	"kevel/bank"
	"kevel/tape"
)

// rankMany is how many stamps are told apart: there are never more that play a part.
const rankMany = 14

// step is what an operation does next, as long as whole reads and writes of slotted numbers, which have one order (P14.3), are its steps.
type step struct {
	over, write bool
	// number is that which is read or written, x what is written, or told, if it is over: a stamp.
	number, x int
}

// nextStep is what an operation of real code does next, behind those answers, with Top 15 and values that are their stamps: of bits that were never written and cells that tell what they are to tell each read of a number asks for three accesses, each write for eight.
func nextStep(t *testing.T, do func(m *tape.Mem) int, locals, answers []int) step {
	t.Helper()
	v, out := tape.Play(do, locals, answers)
	if out.Done {
		return step{over: true, x: v}
	}
	cell := out.Accesses[len(answers)].Cell
	if cell%16 == 11 {
		return step{number: cell / 16}
	}
	_, out = tape.Play(do, locals, slices.Concat(answers, make([]int, 8)))
	access := out.Accesses[len(answers)+1]
	if cell%16 != 14 || access.Kind != api.AcWrite || access.Cell != cell/16*16+3 || access.Val%17 != 0 {
		t.Fatal("an operation does something else than to read and write numbers", out)
	}
	return step{write: true, number: cell / 16, x: access.Val / 17}
}

// code is what all operations of a number do, step by step.
type code struct {
	k int
	// reads are the steps of the readers, by how many they did, and by the greatest stamp that they read.
	reads [][][]step
	// writes are the numbers that a write writes.
	writes []int
}

// newCode finds out what operations do: of a number of k readers, which the last thread writes.
func newCode(t *testing.T, k int) *code {
	t.Helper()
	r := api.Reg{Kind: api.RegTable, N: k + 1, Writer: k, Top: 15}
	c := &code{k: k}
	for stamp := 1; stamp < rankMany; stamp++ {
		do := func(m *tape.Mem) int { Write(m, r, k, stamp); return 0 }
		var writes []int
		for {
			next := nextStep(t, do, []int{stamp - 1, stamp - 1}, make([]int, 8*len(writes)))
			if next.over {
				break
			}
			if !next.write || next.x != stamp {
				t.Fatal("a write writes something else", next)
			}
			writes = append(writes, next.number)
		}
		if stamp > 1 && !slices.Equal(writes, c.writes) {
			t.Fatal("writes write", writes, c.writes)
		}
		c.writes = writes
	}
	for a := range k {
		c.reads = append(c.reads, c.readsOf(t, r, a))
	}
	return c
}

// readsOf are the steps of the reader a. The greatest stamp of those that were read tells all that they do.
func (c *code) readsOf(t *testing.T, r api.Reg, a int) [][]step {
	t.Helper()
	do := func(m *tape.Mem) int { return Read(m, r, a) }
	var steps [][]step
	known := map[[2]int]bool{}
	// A list of stamps that were read, and how many steps there were behind these.
	var follow func(done, greatest int, answers []int)
	follow = func(done, greatest int, answers []int) {
		next := nextStep(t, do, nil, answers)
		for len(steps) <= done {
			steps = append(steps, make([]step, rankMany))
		}
		at := [2]int{done, greatest}
		if known[at] && steps[done][greatest] != next {
			t.Fatal("not all is told by the greatest stamp", a, at, next)
		}
		known[at], steps[done][greatest] = true, next
		switch {
		case next.over:
		case next.write:
			follow(done+1, greatest, slices.Concat(answers, make([]int, 8)))
		default:
			for stamp := range rankMany {
				follow(done+1, max(greatest, stamp), slices.Concat(answers, []int{0, 0, stamp * 17}))
			}
		}
	}
	follow(0, 0, nil)
	return steps
}

// readerMany is how many readers there are at most here.
const readerMany = 3

// state is all that there is of a number: of its stamps only that matters which one is greater.
type state struct {
	numbers [readerMany * readerMany]int8
	// going is whether somebody has an operation; done is how many of its steps were done. The writer is the last one.
	going [readerMany + 1]bool
	done  [readerMany + 1]int8
	// greatest is the greatest stamp that a reader has read, low the least one that he may tell.
	greatest, low [readerMany]int8
	// begun and over are the last writes that began, and that were over; told is the greatest stamp that was told.
	begun, over, told int8
}

// ranked is a state, of whose stamps the least one is 0, the next one 1, and so on.
func (s state) ranked() state {
	var live uint32
	all := func(do func(stamp *int8)) {
		for i := range s.numbers {
			do(&s.numbers[i])
		}
		for a := range s.greatest {
			do(&s.greatest[a])
			do(&s.low[a])
		}
		do(&s.begun)
		do(&s.over)
		do(&s.told)
	}
	for a := range s.greatest {
		// Who has no operation has no stamps of his own; nor who has read none yet.
		if !s.going[a] {
			s.low[a] = s.begun
		}
		if s.done[a] == 0 {
			s.greatest[a] = s.begun
		}
	}
	all(func(stamp *int8) { live |= 1 << *stamp })
	var ranks [32]int8
	next := int8(0)
	for stamp := range ranks {
		ranks[stamp] = next
		if live>>stamp&1 != 0 {
			next++
		}
	}
	all(func(stamp *int8) { *stamp = ranks[*stamp] })
	return s
}

// search goes through all states that there may be of a number of k readers.
type search struct {
	t    *testing.T
	code *code
	seen map[state]struct{}
	left []state
	// writes is how many writes there are at most, if it is not 0.
	writes int8
	most   int8
}

// meet is a state that there may be.
func (s *search) meet(at state) {
	if s.writes == 0 {
		at = at.ranked()
	}
	if _, is := s.seen[at]; !is {
		s.most = max(s.most, at.begun)
		s.seen[at] = struct{}{}
		s.left = append(s.left, at)
	}
}

// write lets the writer begin, do its next step, or end.
func (s *search) write(at state) {
	w := readerMany
	switch {
	case !at.going[w] && s.writes != 0 && at.begun == s.writes:
		return
	case !at.going[w]:
		at.going[w] = true
		at.begun++
		if int(at.begun) >= rankMany {
			s.t.Fatal("more stamps than were thought of", at)
		}
	case int(at.done[w]) < len(s.code.writes):
		at.numbers[s.code.writes[at.done[w]]] = at.begun
		at.done[w]++
	default:
		at.going[w], at.done[w], at.over = false, 0, at.begun
	}
	s.meet(at)
}

// read lets a reader begin, do its next step, or end.
func (s *search) read(at state, a int) {
	if !at.going[a] {
		at.going[a], at.low[a], at.greatest[a] = true, max(at.over, at.told), 0
		s.meet(at)
		return
	}
	greatest := at.greatest[a]
	if at.done[a] == 0 {
		greatest = 0
	}
	next := s.code.reads[a][at.done[a]][greatest]
	switch {
	case next.over:
		if told := int8(next.x); told < at.low[a] || told > at.begun {
			s.t.Fatalf("%d is told, and there is no order: %+v", told, at)
		}
		at.told = max(at.told, int8(next.x))
		at.going[a], at.done[a], at.greatest[a], at.low[a] = false, 0, 0, 0
	case next.write:
		at.numbers[next.number] = int8(next.x)
		at.done[a]++
	default:
		at.greatest[a] = max(greatest, at.numbers[next.number])
		at.done[a]++
	}
	s.meet(at)
}

// through goes through all states.
func (s *search) through() {
	s.meet(state{})
	for len(s.left) > 0 {
		at := s.left[len(s.left)-1]
		s.left = s.left[:len(s.left)-1]
		s.write(at)
		for a := range s.code.k {
			s.read(at, a)
		}
	}
	s.t.Log(s.code.k, "readers:", len(s.seen), "states, with", s.most, "stamps at most")
}

// P15.3: of all that may ever happen to a number that one writes and two read, reads and writes have one order, with any many writes.
func TestOneOrderOfTwoReaders(t *testing.T) {
	for k := 1; k <= 2; k++ {
		s := &search{t: t, code: newCode(t, k), seen: map[state]struct{}{}}
		s.through()
	}
}

// P15.3: the same of three readers, with a write or two.
func TestOneOrderOfThreeReaders(t *testing.T) {
	s := &search{t: t, code: newCode(t, 3), seen: map[state]struct{}{}, writes: 2}
	s.through()
}

// real is a number of real cells, behind some cells and locals that are not its own.
type real struct {
	t    *testing.T
	bank *bank.Bank
	reg  api.Reg
	ops  [api.MaxThreads]struct {
		locals    []int
		going, at bool
		answers   []int
		low       int
	}
	// begun and over are the last writes that began, and that were over, of 1, 2 and so on; told is the greatest number that was told.
	begun, over, told int
	most              [2]int
}

// newReal is a number at its beginning.
func newReal(t *testing.T, n, writer, top int) *real {
	t.Helper()
	b, e := bank.New(append([]api.Strip{{Many: 2, Kind: api.CellAtomic, Top: 9}}, Strips(n)...))
	if e != api.OK {
		t.Fatal(e)
	}
	return &real{t: t, bank: b, reg: api.Reg{Kind: api.RegTable, Base: 2, Local: 3, N: n, Writer: writer, Reader: api.None, Top: top}}
}

// turn lets a thread begin an access, or end the one that is under way; it begins an operation, if there is none. It is whether an operation is over.
func (r *real) turn(thread, draw int) bool {
	r.t.Helper()
	op := &r.ops[thread]
	if op.at {
		got, e := r.bank.End(thread, draw)
		if e != api.OK {
			r.t.Fatal(e)
		}
		op.at = false
		op.answers = append(op.answers, got)
	} else if !op.going {
		op.going, op.low = true, max(r.over, r.told)
		if thread == r.reg.Writer {
			r.begun++
		}
	}
	told, out := 0, api.Out{}
	if thread == r.reg.Writer {
		out = playWrite(r.reg, thread, r.begun, op.locals, op.answers)
	} else {
		told, out = playRead(r.reg, thread, op.locals, op.answers)
	}
	if out.Done {
		op.locals = out.Locals
		r.end(thread, told)
		return true
	}
	if e := r.bank.Begin(thread, out.Accesses[len(op.answers)]); e != api.OK {
		r.t.Fatal(e)
	}
	op.at = true
	return false
}

// end ends an operation.
func (r *real) end(thread, told int) {
	r.t.Helper()
	op := &r.ops[thread]
	cost := len(op.answers)
	op.going, op.answers = false, nil
	if thread == r.reg.Writer {
		r.over = r.begun
		r.most[0] = max(r.most[0], cost)
		if v, _ := playRead(r.reg, thread, op.locals, nil); v != r.begun {
			r.t.Fatal("the writer reads", v, "behind a write of", r.begun)
		}
		return
	}
	if told < op.low || told > r.begun {
		r.t.Fatal(told, "is told, and there is no order", op.low, r.begun)
	}
	r.told = max(r.told, told)
	r.most[1] = max(r.most[1], cost)
}

// P15.3: of all rows of five writes and reads by three threads, one behind the other, each read tells what was written last.
func TestWrittenIsRead(t *testing.T) {
	for writer := range 3 {
		for number := range 3 * 3 * 3 * 3 * 3 {
			r := newReal(t, 3, writer, 5)
			for range 5 {
				for !r.turn(number%3, 7) {
				}
				number /= 3
			}
		}
	}
}

// P15.3, P15.2: the same of long rows of turns of two to eight threads, in which each goes on often or seldom, up to different greatest numbers.
func TestLongRows(t *testing.T) {
	d := dice(6)
	for n := 2; n <= api.MaxThreads; n++ {
		most := [2]int{}
		for number := range 12 {
			r := newReal(t, n, d.below(n), []int{4000, 1 << 16, 1 << 20}[number%3])
			// Threads sleep for a while, all but some.
			var often [api.MaxThreads]int
			for round := range 12000 / n {
				if round%50 == 0 {
					for thread := range often {
						often[thread] = []int{0, 1, 3, 9, 9}[d.below(5)]
					}
				}
				for thread := range n {
					if d.below(9) < often[thread] {
						r.turn(thread, d.below(100)-50)
					}
				}
			}
			most[0], most[1] = max(most[0], r.most[0]), max(most[1], r.most[1])
			if r.told < 5 || r.told > 4000 {
				t.Fatal("rows were too short, or too long", n, r.told)
			}
		}
		t.Log(n, "threads, most accesses", most)
	}
}
