package unary

import (
	"math"
	"slices"
	"testing"

	"kevel/api"
	"kevel/bank"
	"kevel/tape"
)

// most is how many locals there are.
const most = 32768

// numbers are values that are handed in, and answers: any number is one. Some have a small one's lower bits.
func numbers() []int {
	return []int{math.MinInt, -1 << 32, -256, -2, -1, 0, 1, 2, 3, 5, 254, 255, 256, 257, 1 << 16, 1 << 32, 1<<32 + 1, 1 << 41, 1 << 62, math.MaxInt}
}

// nearest is the number from 0 to most that is the nearest one.
func nearest(n, most int) int {
	switch {
	case n < 0:
		return 0
	case n > most:
		return most
	}
	return n
}

// registers are numbers up to top at one place: the fields that are no place play no part.
func registers(base, local, top int) []api.Reg {
	return []api.Reg{
		{Base: base, Local: local, Top: top},
		{Kind: api.RegUnary, Base: base, Local: local, N: 1, Reader: api.None, Top: top},
		{Kind: api.RegMany, Base: base, Local: local, N: 8, Writer: 7, Reader: 3, Top: top},
		{Kind: -1, Base: base, Local: local, N: -5, Writer: -9, Reader: math.MinInt, Top: top},
	}
}

// playWrite plays a write.
func playWrite(r api.Reg, v int, locals, answers []int) api.Out {
	_, out := tape.Play(func(m *tape.Mem) int { Write(m, r, v); return 0 }, locals, answers)
	return out
}

// playRead plays a read.
func playRead(r api.Reg, locals, answers []int) (int, api.Out) {
	return tape.Play(func(m *tape.Mem) int { return Read(m, r) }, locals, answers)
}

// alike is whether what came of two operations is the same; lists that are nil are empty ones.
func alike(a, b api.Out) bool {
	return a.Done == b.Done && slices.Equal(a.Accesses, b.Accesses) && slices.Equal(a.Notes, b.Notes) && slices.Equal(a.Locals, b.Locals)
}

// reads are accesses that read cells from one on.
func reads(from, many int) []api.Access {
	var all []api.Access
	for i := range many {
		all = append(all, api.Access{Kind: api.AcRead, Cell: from + i})
	}
	return all
}

// P12.1: its cells are one strip of safe ones up to 1, one for each number that it may be, and so are its locals; whoever asked may write into the list.
func TestStrips(t *testing.T) {
	tops := numbers()
	for top := -3; top <= 300; top++ {
		tops = append(tops, top)
	}
	for _, top := range tops {
		many := nearest(top, 255) + 1
		want := []api.Strip{{Many: many, Kind: api.CellSafe, Top: 1}}
		for range 2 {
			l := Strips(top)
			if !slices.Equal(l, want) || Locals(top) != many {
				t.Fatal(top, l, Locals(top))
			}
			_ = append(l, api.Strip{Many: 5})
			l[0] = api.Strip{Many: 9, Kind: api.CellAtomic, Top: 7}
		}
		if n, e := bank.Count(Strips(top)); n != many || e != api.OK {
			t.Fatal(top, n, e)
		}
	}
}

// target is what a write is to put into one cell, and then into a local.
type target struct{ cell, local, val int }

// putsOf are what a write puts, in its order, whether or not it is there already.
func putsOf(r api.Reg, v int) []target {
	v = nearest(v, nearest(r.Top, 255))
	var all []target
	for i := v; i >= 0; i-- {
		val := 0
		if (i == v) != (i == 0) {
			val = 1
		}
		all = append(all, target{r.Base + i, r.Local + i, val})
	}
	return all
}

// wantWrite is what is to come of a write with so many answers.
func wantWrite(r api.Reg, v int, locals []int, many int) api.Out {
	room := slices.Concat(locals, make([]int, 600))
	var all []api.Access
	for _, p := range putsOf(r, v) {
		if room[p.local] == p.val {
			continue
		}
		all = append(all, api.Access{Kind: api.AcWrite, Cell: p.cell, Val: p.val})
		if len(all) > many {
			return api.Out{Accesses: all, Locals: tape.Short(room)}
		}
		room[p.local] = p.val
	}
	return api.Out{Done: true, Accesses: all, Locals: tape.Short(room)}
}

// holdWrite plays a write with each number of answers, up to two too many, and holds what comes of it against what is told of it.
func holdWrite(t *testing.T, r api.Reg, v int, locals []int, answer int) {
	t.Helper()
	full := len(wantWrite(r, v, locals, 1000).Accesses)
	if full > nearest(v, nearest(r.Top, 255))+1 {
		t.Fatal("more accesses than the number and one:", full)
	}
	given := slices.Clone(locals)
	for many := range full + 3 {
		want := wantWrite(r, v, locals, many)
		if out := playWrite(r, v, locals, slices.Repeat([]int{answer}, many)); !alike(out, want) {
			t.Fatalf("write of %d into %+v, locals %v, %d answers: %+v in place of %+v", v, r, locals, many, out, want)
		}
	}
	if !slices.Equal(locals, given) {
		t.Fatal("a write wrote into the locals that were handed in")
	}
}

// P12.1, P12.2: a write, with all bits that there may be ahead of it, at all kinds of places, and with each number of answers.
func TestWrite(t *testing.T) {
	for top := range 5 {
		for bits := range 1 << (top + 1) {
			for _, local := range []int{0, 3} {
				locals := slices.Repeat([]int{9}, local)
				for i := range top + 1 {
					locals = append(locals, bits>>i&1)
				}
				locals = append(locals, 4, 1, 0, 1)
				for _, r := range registers(7, local, top) {
					for v := -2; v < top+3; v++ {
						holdWrite(t, r, v, locals, 0)
						holdWrite(t, r, v, locals, v)
					}
				}
			}
		}
	}
}

// P12.1: numbers, and greatest ones, that are too small or too great count as the nearest; answers of writes play no part.
func TestWriteOfAnyNumber(t *testing.T) {
	for _, top := range numbers() {
		for _, v := range numbers() {
			for _, locals := range [][]int{nil, {1}, {0, 1, 1}, {1, 0, 1, 0, 1}, slices.Repeat([]int{1}, 256), slices.Repeat([]int{1}, 300)} {
				for _, r := range registers(0, 0, top) {
					want := wantWrite(r, v, locals, 1000)
					for _, answer := range []int{0, 1, math.MinInt, math.MaxInt} {
						if out := playWrite(r, v, locals, slices.Repeat([]int{answer}, 256)); !alike(out, want) {
							t.Fatal(top, v, locals, answer, out)
						}
					}
				}
			}
		}
	}
}

// P12.1: each number up to the greatest, with each number of answers, on bits that are all up, all down, or mixed.
func TestWriteOfGreatNumbers(t *testing.T) {
	r := api.Reg{Kind: api.RegUnary, Base: 100, Local: 50, Top: 255}
	for _, v := range []int{0, 1, 2, 100, 128, 254, 255, 256} {
		for _, pattern := range [][]int{{0}, {1}, {0, 1}, {1, 1, 0}} {
			holdWrite(t, r, v, slices.Repeat(pattern, 400/len(pattern)), 0)
		}
	}
}

// P12.1: cells are where they are told to be, be that no place where cells lie.
func TestPlacesOfCells(t *testing.T) {
	for _, base := range []int{0, 1, 32767, 32768, -1, -2, -1 << 32, math.MinInt, math.MaxInt - 3} {
		for v := range 4 {
			for _, r := range registers(base, 2, 3) {
				holdWrite(t, r, v, []int{5, 5, 1, 1, 0, 1}, 0)
				holdWrite(t, r, v, []int{5, 5, 0, 0, 1}, 0)
			}
		}
	}
}

// P12.1: a local that is no bit is none that is to be written, whatever that is.
func TestLocalsThatAreNoBits(t *testing.T) {
	for _, a := range numbers() {
		for _, b := range numbers() {
			for v := range 4 {
				holdWrite(t, api.Reg{Base: 5, Local: 1, Top: 2}, v, []int{3, a, b, a, 3}, 0)
			}
		}
	}
}

// P12.1: the last locals that there are are ones, and those beyond are none: they are 0, whatever was written there.
func TestEdgesOfLocals(t *testing.T) {
	r := api.Reg{Base: 5, Local: most - 2, Top: 3}
	twice := func(v int, locals []int) api.Out {
		_, out := tape.Play(func(m *tape.Mem) int { Write(m, r, v); Write(m, r, v); return 0 }, locals, make([]int, 8))
		return out
	}
	asked := []api.Access{
		{Kind: api.AcWrite, Cell: 8, Val: 1}, {Kind: api.AcWrite, Cell: 5, Val: 1},
		{Kind: api.AcWrite, Cell: 8, Val: 1},
	}
	out := twice(3, nil)
	if !out.Done || !slices.Equal(out.Accesses, asked) || len(out.Locals) != most-1 || out.Locals[most-2] != 1 {
		t.Fatal(out.Done, out.Accesses, len(out.Locals))
	}
	r.Local = -1
	out = twice(1, []int{0, 0, 7})
	asked = []api.Access{
		{Kind: api.AcWrite, Cell: 6, Val: 1}, {Kind: api.AcWrite, Cell: 5, Val: 1},
		{Kind: api.AcWrite, Cell: 5, Val: 1},
	}
	if !out.Done || !slices.Equal(out.Accesses, asked) || !slices.Equal(out.Locals, []int{1, 0, 7}) {
		t.Fatal(out)
	}
}

// wantRead is what is to come of a read that is given answers.
func wantRead(r api.Reg, locals, answers []int) (int, api.Out) {
	top := nearest(r.Top, 255)
	for i := 0; i <= top; i++ {
		if i == len(answers) {
			return 0, api.Out{Accesses: reads(r.Base, i+1), Locals: tape.Short(locals)}
		}
		if (answers[i] == 1) != (i == 0) {
			return i, api.Out{Done: true, Accesses: reads(r.Base, i+1), Locals: tape.Short(locals)}
		}
	}
	return top, api.Out{Done: true, Accesses: reads(r.Base, top+1), Locals: tape.Short(locals)}
}

// holdRead plays a read, and holds what comes of it against what is told of it.
func holdRead(t *testing.T, r api.Reg, locals, answers []int) {
	t.Helper()
	want, wantOut := wantRead(r, locals, answers)
	if len(wantOut.Accesses) > nearest(r.Top, 255)+1 {
		t.Fatal("more accesses than numbers")
	}
	if v, out := playRead(r, locals, answers); v != want || !alike(out, wantOut) {
		t.Fatalf("read of %+v, answers %v: %d, %+v in place of %d, %+v", r, answers, v, out, want, wantOut)
	}
}

// P12.1, P12.2: a read, with all that it may be answered, with each number of answers up to two too many, at all kinds of places; locals play no part, and stay.
func TestRead(t *testing.T) {
	told := []int{0, 1, 2, -1}
	for top := -1; top < 4; top++ {
		for many := range top + 4 {
			for row := range 1 << (2 * many) {
				var answers []int
				for i := range many {
					answers = append(answers, told[row>>(2*i)&3])
				}
				for _, r := range registers(7, 1, top) {
					holdRead(t, r, nil, answers)
					holdRead(t, r, []int{0, 1, 0, 1, 1, 0, 0}, answers)
				}
			}
		}
	}
}

// P12.1: a bit is up by just the number 1, and the first one by each other one.
func TestReadOfAnyAnswer(t *testing.T) {
	for _, a := range numbers() {
		for _, b := range numbers() {
			for _, top := range []int{0, 1, 2} {
				holdRead(t, api.Reg{Base: 3, Local: 1, Top: top}, nil, []int{a, b, 0})
				holdRead(t, api.Reg{Base: 3, Local: 1, Top: top}, nil, []int{1, a, b})
			}
		}
	}
}

// P12.1: reads whose bit that is up is each one, or none; greatest numbers that are too small or too great count as the nearest.
func TestReadOfGreatNumbers(t *testing.T) {
	for _, top := range numbers() {
		for _, up := range []int{0, 1, 2, 3, 100, 254, 255, 256, 300} {
			answers := make([]int, 300)
			answers[0] = 1
			if up == 0 {
				answers[0] = 0
			} else if up < 300 {
				answers[up] = 1
			}
			for _, base := range []int{0, 3, 32767, -1, -300, math.MinInt, math.MaxInt - 255} {
				holdRead(t, api.Reg{Kind: api.RegUnary, Base: base, Local: base, Top: top}, nil, answers)
				holdRead(t, api.Reg{Kind: api.RegUnary, Base: base, Top: top}, []int{1, 1}, answers[:up])
			}
		}
	}
}

// P12.1: the example: up to 3, of a write of 2 the cells 2 (1) and 0 (1) are written.
func TestExample(t *testing.T) {
	out := playWrite(api.Reg{Top: 3}, 2, nil, []int{0, 0})
	want := api.Out{Done: true, Locals: []int{1, 0, 1}, Accesses: []api.Access{
		{Kind: api.AcWrite, Cell: 2, Val: 1}, {Kind: api.AcWrite, Cell: 0, Val: 1},
	}}
	if !alike(out, want) {
		t.Fatal(out)
	}
}

// P12.1: at first it is 0: a read of cells that nobody wrote tells 0 by one access, and a first write of 0 is nothing.
func TestFirst(t *testing.T) {
	for top := range 256 {
		r := api.Reg{Kind: api.RegUnary, Base: 1, Top: top}
		if v, out := playRead(r, nil, []int{0}); v != 0 || !out.Done || len(out.Accesses) != 1 {
			t.Fatal(top, v, out)
		}
		if out := playWrite(r, 0, nil, nil); !alike(out, api.Out{Done: true}) {
			t.Fatal(top, out)
		}
	}
}

// P12.1: a write that stopped goes on, asked for again, with what it did not do.
func TestStopped(t *testing.T) {
	r := api.Reg{Base: 1, Local: 1, Top: 4}
	before := []int{8, 1, 1, 1, 1, 1}
	full := playWrite(r, 4, before, make([]int, 9))
	for many := range len(full.Accesses) {
		first := playWrite(r, 4, before, make([]int, many))
		again := playWrite(r, 4, first.Locals, make([]int, 9))
		if first.Done || !again.Done || !slices.Equal(again.Accesses, full.Accesses[many:]) || !slices.Equal(again.Locals, full.Locals) {
			t.Fatal(many, first, again)
		}
	}
}

// R1, R7: of a nil Mem, and of one that nobody played, nothing: cells that tell 0 have their first bit up.
func TestNobodysMem(t *testing.T) {
	for _, m := range []*tape.Mem{nil, {}} {
		for _, x := range numbers() {
			for _, place := range []int{math.MinInt, -1, 0, 1, most, math.MaxInt - 255} {
				for _, r := range registers(place, place, x) {
					Write(m, r, x)
					Write(m, r, 1)
					if v := Read(m, r); v != 0 {
						t.Fatal(x, v)
					}
				}
			}
		}
	}
}

// cells are one number's, and of whoever writes it the locals.
type cells struct {
	bank   *bank.Bank
	reg    api.Reg
	locals []int
}

// newCells are a number's at its beginning, behind some cells and locals that are not its own.
func newCells(t *testing.T, top int) *cells {
	t.Helper()
	b, e := bank.New(append([]api.Strip{{Many: 2, Kind: api.CellSafe, Top: 1}}, Strips(top)...))
	if e != api.OK {
		t.Fatal(e)
	}
	return &cells{bank: b, reg: api.Reg{Kind: api.RegUnary, Base: 2, Local: 3, N: 2, Reader: api.None, Top: top}}
}

// alone does an access that nothing overlaps.
func (c *cells) alone(t *testing.T, a api.Access) int {
	t.Helper()
	if e := c.bank.Begin(0, a); e != api.OK {
		t.Fatal(e)
	}
	v, e := c.bank.End(0, 7)
	if e != api.OK {
		t.Fatal(e)
	}
	return v
}

// write writes alone, never with what is there.
func (c *cells) write(t *testing.T, v int) {
	t.Helper()
	out := playWrite(c.reg, v, c.locals, make([]int, v+1))
	if !out.Done || len(out.Accesses) > v+1 {
		t.Fatal(v, out)
	}
	for _, a := range out.Accesses {
		if c.bank.Value(a.Cell) == a.Val {
			t.Fatal(v, "is written with what is there", a)
		}
		c.alone(t, a)
	}
	c.locals = out.Locals
}

// read reads alone.
func (c *cells) read(t *testing.T) int {
	t.Helper()
	var answers []int
	for range c.reg.Top + 2 {
		v, out := playRead(c.reg, nil, answers)
		if out.Done {
			return v
		}
		answers = append(answers, c.alone(t, out.Accesses[len(out.Accesses)-1]))
	}
	t.Fatal("a read without an end")
	return 0
}

// P12.2, P12.3: of all rows of six writes up to 0, 1, 2 and 3 each number is read, which was written, behind each one.
func TestWrittenIsRead(t *testing.T) {
	const long = 6
	for top := range 4 {
		rows := 1
		for range long {
			rows *= top + 1
		}
		for row := range rows {
			c := newCells(t, top)
			if c.read(t) != 0 {
				t.Fatal(top, "is not 0 at first")
			}
			for i, left := 0, row; i < long; i, left = i+1, left/(top+1) {
				v := left % (top + 1)
				c.write(t, v)
				if got := c.read(t); got != v {
					t.Fatal(top, row, i, got, v)
				}
			}
		}
	}
}

// P12.2, P12.3: the same of long rows of writes up to greater numbers, the greatest among them.
func TestWrittenIsReadOfGreatNumbers(t *testing.T) {
	for _, top := range []int{4, 7, 31, 100, 254, 255} {
		c := newCells(t, top)
		v := 0
		for i := range 300 {
			v = (v*31 + i*i + 7) % (top + 1)
			c.write(t, v)
			if got := c.read(t); got != v {
				t.Fatal(top, i, got, v)
			}
		}
		for _, v := range []int{0, top, 0, top, top, 1 % (top + 1), top, 0} {
			c.write(t, v)
			if got := c.read(t); got != v {
				t.Fatal(top, got, v)
			}
		}
	}
}

// widest is how many bits a number has whose states are gone through.
const widest = 6

// state is all that there is of a number that one writes and one reads, who overlap one another in any way.
type state struct {
	cells [widest]int
	// value is what was written last, and next what is being written.
	value, next int
	writing     bool
	// writes is whether an access of the write is under way; the write's locals are the cells when it began.
	writes   bool
	locals   [widest]int
	done     int
	reading  bool
	reads    bool
	overlaps bool
	// answers are what the read was told so far.
	answers [widest]int
	told    int
	// sees has a bit for each number that the read may tell, if it is regular.
	sees int
}

// search goes through all states that there may be.
type search struct {
	t    *testing.T
	top  int
	seen map[state]bool
	left []state
	// overlapped counts the reads that could tell more than one number.
	overlapped int
}

// meet is a state that there may be.
func (s *search) meet(next state) {
	if !s.seen[next] {
		s.seen[next] = true
		s.left = append(s.left, next)
	}
}

// reg is the number.
func (s *search) reg() api.Reg {
	return api.Reg{Kind: api.RegUnary, N: 2, Reader: 1, Top: s.top}
}

// begin begins a write of v.
func (s *search) begin(at state, v int) {
	at.writing, at.next, at.locals, at.done = true, v, at.cells, 0
	if at.reading {
		at.sees |= 1 << v
	}
	s.goOn(at)
}

// goOn lets a write begin its next access, or be over.
func (s *search) goOn(at state) {
	out := playWrite(s.reg(), at.next, at.locals[:], make([]int, at.done))
	if out.Done {
		at.value, at.next, at.writing, at.done, at.locals = at.next, 0, false, 0, [widest]int{}
		s.meet(at)
		return
	}
	a := out.Accesses[at.done]
	if at.cells[a.Cell] == a.Val {
		s.t.Fatal("a cell is written with what it has", at)
	}
	at.writes = true
	if at.reads && a.Cell == at.told {
		at.overlaps = true
	}
	s.meet(at)
}

// end ends a write's access.
func (s *search) end(at state) {
	out := playWrite(s.reg(), at.next, at.locals[:], make([]int, at.done))
	a := out.Accesses[at.done]
	at.cells[a.Cell] = a.Val
	at.writes = false
	at.done++
	s.meet(at)
}

// written is the cell that is being written, or none.
func (s *search) written(at state) int {
	if !at.writes {
		return -1
	}
	return playWrite(s.reg(), at.next, at.locals[:], make([]int, at.done)).Accesses[at.done].Cell
}

// read begins a read's next access, and the read, if there is none.
func (s *search) read(at state) {
	if !at.reading {
		at.reading, at.sees = true, 1<<at.value
		if at.writing {
			at.sees |= 1 << at.next
		}
	}
	_, out := playRead(s.reg(), nil, at.answers[:at.told])
	if last := out.Accesses[len(out.Accesses)-1]; last.Cell != at.told || out.Done {
		s.t.Fatal("a read of another cell", at, out)
	}
	at.reads, at.overlaps = true, s.written(at) == at.told
	s.meet(at)
}

// tell ends a read's access, and the read, if it has what it needs.
func (s *search) tell(at state, v int) {
	at.answers[at.told] = v
	at.told++
	at.reads, at.overlaps = false, false
	if v, out := playRead(s.reg(), nil, at.answers[:at.told]); out.Done {
		if at.sees>>v&1 == 0 {
			s.t.Fatalf("%d is told, which it does not see: %+v", v, at)
		}
		if at.sees != 1<<v {
			s.overlapped++
		}
		at.reading, at.told, at.answers, at.sees = false, 0, [widest]int{}, 0
	}
	s.meet(at)
}

// turns are what may come next: the writer's turn, and the reader's.
func (s *search) turns(at state) {
	switch {
	case at.writes:
		s.end(at)
	case at.writing:
		s.goOn(at)
	default:
		for v := range s.top + 1 {
			s.begin(at, v)
		}
	}
	switch {
	case !at.reads:
		s.read(at)
	case at.overlaps:
		s.tell(at, 0)
		s.tell(at, 1)
	default:
		s.tell(at, at.cells[at.told])
	}
}

// W7: it is regular: a read tells what was written last, or what is being written, of all that may ever happen to numbers up to 0, 1, and on to 5, whatever safe cells tell.
func TestRegular(t *testing.T) {
	for top := range widest {
		s := &search{t: t, top: top, seen: map[state]bool{}}
		s.meet(state{})
		for len(s.left) > 0 {
			at := s.left[len(s.left)-1]
			s.left = s.left[:len(s.left)-1]
			s.turns(at)
		}
		if top > 0 && s.overlapped == 0 {
			t.Fatal("no read overlapped a write")
		}
		t.Log(top, len(s.seen), "states")
	}
}
