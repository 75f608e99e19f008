package many

import (
	"math"
	"slices"
	"testing"

	"kevel/api"
	"kevel/bank"
	"kevel/table"
	"kevel/tape"
)

// most is how many locals there are.
const most = 32768

// enough is more answers than any operation uses up.
const enough = 1600

// numbers are values that are handed in, and answers: any number is one.
func numbers() []int {
	return []int{math.MinInt, -1 << 32, -256, -2, -1, 0, 1, 2, 3, 254, 255, 256, 4095, 4096, 1<<20 - 1, 1 << 20, 1<<20 + 1, api.MaxWord, 1 << 41, 1<<42 + 1, 1 << 62, math.MaxInt}
}

// registers are numbers of so many threads at one place: the fields that are none of a shared number's play no part.
func registers(base, local, n, top int) []api.Reg {
	return []api.Reg{
		{Base: base, Local: local, N: n, Top: top},
		{Kind: api.RegMany, Base: base, Local: local, N: n, Writer: api.None, Reader: api.None, Top: top},
		{Kind: -7, Base: base, Local: local, N: n, Writer: 1, Reader: math.MaxInt, Top: top},
	}
}

// playWrite plays a write.
func playWrite(r api.Reg, me, v int, locals, answers []int) api.Out {
	_, out := tape.Play(func(m *tape.Mem) int { Write(m, r, me, v); return 0 }, locals, answers)
	return out
}

// playRead plays a read.
func playRead(r api.Reg, me int, locals, answers []int) (int, api.Out) {
	return tape.Play(func(m *tape.Mem) int { return Read(m, r, me) }, locals, answers)
}

// alike is whether what came of two operations is the same; lists that are nil are empty ones.
func alike(a, b api.Out) bool {
	return a.Done == b.Done && slices.Equal(a.Accesses, b.Accesses) && slices.Equal(a.Notes, b.Notes) && slices.Equal(a.Locals, b.Locals)
}

// told is an operation as the document tells it: a line of reads and writes of tabled numbers, each of which is played by itself.
type told struct {
	r api.Reg
	// n and top are of how many threads the number is, and up to what.
	n, me, top      int
	locals, answers []int
	asked           []api.Access
	stopped         bool
	// stamp and value are those of the pair that counts.
	stamp, value int
}

// tell begins to tell an operation: all numbers are read, if there is such a thread.
func tell(r api.Reg, me int, locals, answers []int) *told {
	o := &told{r: r, n: min(max(r.N, 1), 8), me: me, top: min(max(r.Top, 0), 255), locals: tape.Short(locals[:min(len(locals), most)]), answers: answers}
	if !o.is() {
		return o
	}
	for j := range o.n {
		x := 0
		o.part(j, func(m *tape.Mem, r api.Reg) { x = table.Read(m, r, me) })
		x = min(max(x, 0), 1<<42)
		if stamp := x / (o.top + 1); stamp >= o.stamp {
			o.stamp, o.value = stamp, x%(o.top+1)
		}
	}
	return o
}

// is is whether there is such a thread.
func (o *told) is() bool { return o.me >= 0 && o.me < o.n }

// part plays an operation of a tabled number.
func (o *told) part(j int, do func(m *tape.Mem, r api.Reg)) {
	if o.stopped {
		return
	}
	k := o.n - 1
	at := api.Reg{
		Kind: api.RegTable, N: o.n, Writer: j, Top: 4095*(o.top+1) + o.top,
		Base: o.r.Base + 16*j*k*k, Local: o.r.Local + j*(2+18*k*k),
	}
	_, out := tape.Play(func(m *tape.Mem) int { do(m, at); return 0 }, o.locals, o.answers[len(o.asked):])
	o.asked, o.locals, o.stopped = append(o.asked, out.Accesses...), out.Locals, !out.Done
}

// out is what came of it.
func (o *told) out() api.Out {
	return api.Out{Done: !o.stopped, Accesses: o.asked, Locals: o.locals}
}

// wantWrite is what is to come of a write.
func wantWrite(r api.Reg, me, v int, locals, answers []int) api.Out {
	o := tell(r, me, locals, answers)
	if o.is() {
		x := min(o.stamp+1, 4095)*(o.top+1) + min(max(v, 0), o.top)
		o.part(me, func(m *tape.Mem, r api.Reg) { table.Write(m, r, me, x) })
	}
	return o.out()
}

// wantRead is what is to come of a read.
func wantRead(r api.Reg, me int, locals, answers []int) (int, api.Out) {
	o := tell(r, me, locals, answers)
	if o.stopped {
		return 0, o.out()
	}
	return o.value, o.out()
}

// readCost is what a read of a tabled number of so many threads costs at most.
func readCost(n int) int {
	k := min(max(n, 1), 8) - 1
	return max(18*k+14*(k-1), 0)
}

// cost is what an operation costs at most.
func cost(n int, write bool) int {
	k := min(max(n, 1), 8) - 1
	if write {
		return k*readCost(n) + 14*k
	}
	return k * readCost(n)
}

// holdWrite plays a write, and holds what comes of it against what is told of it.
func holdWrite(t *testing.T, r api.Reg, me, v int, locals, answers []int) api.Out {
	t.Helper()
	given, before := slices.Clone(locals), slices.Clone(answers)
	want := wantWrite(r, me, v, locals, answers)
	out := playWrite(r, me, v, locals, answers)
	if !alike(out, want) {
		t.Fatalf("write of %d by %d into %+v, locals %v, answers %v: %+v in place of %+v", v, me, r, tape.Short(locals), answers, out, want)
	}
	if !slices.Equal(locals, given) || !slices.Equal(answers, before) {
		t.Fatal("a write wrote into what was handed in")
	}
	if len(out.Accesses) > cost(r.N, true) {
		t.Fatal("a write of too many accesses:", r, out)
	}
	return out
}

// holdRead plays a read, and holds what comes of it against what is told of it.
func holdRead(t *testing.T, r api.Reg, me int, locals, answers []int) api.Out {
	t.Helper()
	given, before := slices.Clone(locals), slices.Clone(answers)
	want, wantOut := wantRead(r, me, locals, answers)
	v, out := playRead(r, me, locals, answers)
	if v != want || !alike(out, wantOut) {
		t.Fatalf("read of %+v by %d, locals %v, answers %v: %d, %+v in place of %d, %+v", r, me, tape.Short(locals), answers, v, out, want, wantOut)
	}
	if !slices.Equal(locals, given) || !slices.Equal(answers, before) {
		t.Fatal("a read wrote into what was handed in")
	}
	if len(out.Accesses) > cost(r.N, false) {
		t.Fatal("a read of too many accesses:", r, out)
	}
	return out
}

// dice is a row of numbers that looks like chance, but is the same each time.
type dice uint32

// below is the next one, below a number.
func (d *dice) below(n int) int {
	*d = *d*1664525 + 1013904223
	return int(*d>>8) % n
}

// some is a list of numbers out of those.
func (d *dice) some(many int, of []int) []int {
	l := make([]int, many)
	for i := range l {
		l[i] = of[d.below(len(of))]
	}
	return l
}

// P16.1: its cells are table's, as often as there are threads, one behind the other, and its locals those as often; whoever asked may write into the list.
func TestStrips(t *testing.T) {
	for n, threads := range map[int]int{1: 1, 2: 2, 3: 3, 4: 4, 5: 5, 6: 6, 7: 7, 8: 8, 9: 8, 255: 8, math.MaxInt: 8, 0: 1, -1: 1, -8: 1, math.MinInt: 1} {
		k := threads - 1
		one := slices.Repeat([]api.Strip{{Many: 4, Kind: api.CellSafe, Top: 1 << 40}, {Many: 12, Kind: api.CellSafe, Top: 1}}, k*k)
		for range 2 {
			l := Strips(n)
			if !slices.Equal(l, slices.Repeat(one, threads)) || !slices.Equal(one, table.Strips(n)) {
				t.Fatal(n, l)
			}
			if Locals(n) != threads*(2+18*k*k) || Locals(n) != threads*table.Locals(n) {
				t.Fatal(n, Locals(n))
			}
			if all, e := bank.Count(l); all != 16*threads*k*k || e != api.OK {
				t.Fatal(n, all, e)
			}
			for i := range l {
				l[i] = api.Strip{Many: 9, Kind: api.CellAtomic, Top: 7}
			}
			_ = append(l, api.Strip{Many: 5})
		}
	}
}

// P16.1, P16.2: writes and reads of numbers of all counts of threads, by all threads and by some that there are not, with all kinds of locals and answers.
func TestWritesAndReads(t *testing.T) {
	d := dice(1)
	for n := -1; n <= 10; n++ {
		for me := -1; me <= 9; me++ {
			r := registers(5, 3, n, d.below(30))[d.below(3)]
			for _, of := range [][]int{{0, 1}, {0, 0, 0, 1}, {1, 1, 0, 40, 70}, {0, 0, 1, 1, 1 << 41}, {0, 0, 900, 31, 33}} {
				for range 3 {
					locals, answers := d.some(d.below(7200), of), d.some(enough, of)
					if out := holdWrite(t, r, me, d.below(40)-5, locals, answers); !out.Done {
						t.Fatal(out)
					}
					if out := holdRead(t, r, me, locals, answers); !out.Done {
						t.Fatal(out)
					}
				}
			}
		}
	}
}

// P16.1: writes and reads with each number of answers; of many threads with each seventh.
func TestEachNumberOfAnswers(t *testing.T) {
	d := dice(2)
	for n := 1; n <= 8; n++ {
		for me := range n {
			r := registers(7, 1, n, 9)[d.below(3)]
			locals, answers := d.some(300, []int{0, 1, 5}), d.some(enough, []int{0, 1, 1, 0, 25})
			step := 1
			if n > 4 {
				step = 7
			}
			all := holdWrite(t, r, me, 4, locals, answers).Accesses
			for many := 0; many < len(all); many += step {
				if out := holdWrite(t, r, me, 4, locals, answers[:many]); out.Done {
					t.Fatal(out)
				}
			}
			all = holdRead(t, r, me, locals, answers).Accesses
			for many := 0; many < len(all); many += step {
				if out := holdRead(t, r, me, locals, answers[:many]); out.Done {
					t.Fatal(out)
				}
			}
		}
	}
}

// P16.1: any value and any greatest one are cut, any thread that is none does nothing; answers, and locals, are told as they are, where no bit is asked for.
func TestAnyNumbers(t *testing.T) {
	d := dice(3)
	for _, x := range numbers() {
		for _, y := range numbers() {
			for _, r := range []api.Reg{
				{Kind: api.RegMany, Base: 2, Local: 1, N: 3, Top: y},
				{Kind: api.RegMany, Base: 2, Local: 1, N: y, Top: 300},
				{Kind: api.RegMany, Base: 2, Local: 1, N: 2, Writer: y, Top: 255},
			} {
				locals, answers := d.some(60, []int{0, 1}), d.some(enough, []int{0, 1, 0, 1, x})
				locals[1], locals[2] = d.below(5000), y
				for _, me := range []int{0, 1, 2, x} {
					holdWrite(t, r, me, x, locals, answers)
					holdRead(t, r, me, locals, answers)
					locals = d.some(250, []int{0, 1, x & (1<<41 - 1)})
				}
			}
		}
	}
}

// P16.1: of one thread a write and a read cost nothing; whoever else writes does nothing, and reads 0.
func TestOfOneThread(t *testing.T) {
	for _, n := range []int{math.MinInt, -1, 0, 1} {
		for _, writer := range []int{math.MinInt, api.None, 0, 1, math.MaxInt} {
			r := api.Reg{Kind: api.RegMany, Base: 4, Local: 1, N: n, Writer: writer, Top: 9}
			all := func(m *tape.Mem) [4]int {
				first := Read(m, r, 0)
				Write(m, r, 0, 5)
				Write(m, r, 1, 6)
				Write(m, r, api.None, 7)
				second := Read(m, r, 0)
				Write(m, r, 0, 12)
				return [4]int{first, second, Read(m, r, 0), Read(m, r, 1)}
			}
			v, out := tape.Play(all, []int{8}, nil)
			// Two writes of the tabled number; of the stamp 2, and of 9, up to 9: 29.
			if v != [4]int{0, 5, 9, 0} || !alike(out, api.Out{Done: true, Locals: []int{8, 2, 29}}) {
				t.Fatal(n, writer, v, out)
			}
		}
	}
}

// P16.1: by no such thread nothing is done, and 0 is told, without an access, whatever there is.
func TestNoSuchThread(t *testing.T) {
	d := dice(7)
	for n := 1; n <= 8; n++ {
		for _, me := range []int{math.MinInt, -8, -1, n, n + 1, 8, 9, 255, math.MaxInt} {
			r := registers(3, 2, n, 9)[d.below(3)]
			locals := d.some(400, []int{1, 25, 37})
			if out := playWrite(r, me, 4, locals, nil); !alike(out, api.Out{Done: true, Locals: locals}) {
				t.Fatal(n, me, out)
			}
			if v, out := playRead(r, me, locals, nil); v != 0 || !alike(out, api.Out{Done: true, Locals: locals}) {
				t.Fatal(n, me, v, out)
			}
		}
	}
}

// P16.1: cells are where they are told to be, be that no place where cells lie.
func TestPlacesOfCells(t *testing.T) {
	d := dice(4)
	for _, base := range []int{0, 1, 32767, 32768, -1, -100, -1 << 32, math.MinInt, math.MaxInt - 6271} {
		for n := 1; n <= 8; n++ {
			for me := range n {
				r := registers(base, 2, n, 5)[d.below(3)]
				locals, answers := d.some(7200, []int{0, 1}), d.some(enough, []int{0, 1, 9})
				holdWrite(t, r, me, 4, locals, answers)
				holdRead(t, r, me, locals, answers)
			}
		}
	}
}

// P16.1: the last locals that there are are ones, and those beyond are none: they are 0, whatever was written there.
func TestEdgesOfLocals(t *testing.T) {
	d := dice(5)
	full := slices.Repeat([]int{1}, most)
	places := []int{math.MinInt, -1 << 32, math.MaxInt - 7071}
	for i := -41; i <= 3; i++ {
		places = append(places, i, most+i)
	}
	for i := -223; i < -41; i += 6 {
		places = append(places, i, most+i)
	}
	for _, local := range places {
		for n := 1; n <= 3; n++ {
			r := registers(5, local, n, 7)[d.below(3)]
			for _, locals := range [][]int{nil, full, {1, 0, 1}} {
				answers := d.some(180, []int{0, 1, 1, 0, 8, 9})
				for me := range n {
					holdWrite(t, r, me, 4, locals, answers)
					holdRead(t, r, me, locals, answers)
				}
			}
		}
	}
	r := api.Reg{Kind: api.RegMany, Base: 5, Local: most - 2, N: 1, Top: 7}
	if out := playWrite(r, 0, 3, nil, nil); !out.Done || len(out.Locals) != most || out.Locals[most-2] != 1 || out.Locals[most-1] != 11 {
		t.Fatal(out.Done, len(out.Locals))
	}
}

// asked writes out a row of accesses: reads by a value below 0, and writes by the cell and the value.
func asked(l ...[2]int) []api.Access {
	var all []api.Access
	for _, x := range l {
		a := api.Access{Kind: api.AcWrite, Cell: x[0], Val: x[1]}
		if x[1] < 0 {
			a = api.Access{Kind: api.AcRead, Cell: x[0]}
		}
		all = append(all, a)
	}
	return all
}

// tables is how many numbers a tabled number of a shared one up to 9 tells apart: those up to nums.Pack(4095, 9, 9).
const tables = 40960

// P16.1: operations of two threads' number up to 9, written out: what was told ahead of what was written by oneself.
func TestWrittenOut(t *testing.T) {
	r := api.Reg{Kind: api.RegMany, Base: 100, Local: 10, N: 2, Top: 9}
	reads := [2][]api.Access{
		asked([2]int{127, -1}, [2]int{121, -1}, [2]int{116, -1}),
		asked([2]int{111, -1}, [2]int{105, -1}, [2]int{100, -1}),
	}
	own := [2]int{10, 30}
	for _, c := range []struct{ me, own, other, told, stamp int }{
		// The other's stamp is greater, or less, than the own one; they are the same, of which the thread 1's tells the answer.
		{0, 25, 37, 7, 4}, {1, 25, 37, 7, 4},
		{0, 37, 25, 7, 4}, {1, 37, 25, 7, 4},
		{0, 28, 22, 2, 3}, {1, 28, 22, 8, 3},
		{0, 22, 28, 8, 3}, {1, 22, 28, 2, 3},
		{0, 26, 26, 6, 3}, {1, 26, 26, 6, 3},
		// At first all are 0.
		{0, 0, 0, 0, 1}, {1, 0, 0, 0, 1}, {0, 3, 4, 4, 1}, {1, 3, 4, 3, 1},
		// Stamps at their end.
		{0, 40939, 7, 9, 4094}, {1, 7, 40949, 9, 4095}, {0, 40959, 40951, 1, 4095}, {1, 40959, 40951, 9, 4095}, {0, 40951, 40949, 1, 4095},
		// One that no write may have made: its stamp is 5000.
		{0, 50003, 7, 3, 4095},
	} {
		locals := make([]int, own[c.me]+2)
		locals[own[c.me]], locals[own[c.me]+1] = 6, c.own
		answers := []int{0, 0, 5*tables + c.other}
		v, out := playRead(r, c.me, locals, answers)
		if v != c.told || !alike(out, api.Out{Done: true, Accesses: reads[c.me], Locals: tape.Short(locals)}) {
			t.Fatalf("%v: %d, %+v", c, v, out)
		}
		x, b := c.stamp*10+4, 100+16*c.me
		want := api.Out{Done: true, Accesses: slices.Concat(reads[c.me], asked(
			[2]int{b + 14, -1}, [2]int{b + 3, 7*tables + x}, [2]int{b + 7, 1}, [2]int{b + 9, -1}, [2]int{b + 8, 1}, [2]int{b + 10, 1}, [2]int{b + 12, -1}, [2]int{b + 11, 1},
		)), Locals: append(make([]int, own[c.me]), 7, x,
			0, 1, 0, 0, 0, 0, 1, 1, 0, 0, 1, 1)}
		if out := playWrite(r, c.me, 4, locals, append(answers, make([]int, 8)...)); !alike(out, want) {
			t.Fatalf("%v: %+v", c, out)
		}
	}
}

// P16.1: which of four threads' numbers are read and written, in which order: from the thread 0 on, and last the own one.
func TestWhoseNumbers(t *testing.T) {
	r := api.Reg{Kind: api.RegMany, N: 4, Top: 9}
	for me, want := range [][]int{{1, 2, 3}, {0, 2, 3}, {0, 1, 3}, {0, 1, 2}} {
		_, out := playRead(r, me, nil, make([]int, enough))
		if seen := blocks(out.Accesses, 144); !out.Done || !slices.Equal(seen, want) {
			t.Fatal(me, seen)
		}
		out = playWrite(r, me, 5, nil, make([]int, enough))
		if seen := blocks(out.Accesses, 144); !out.Done || !slices.Equal(seen, append(want, me)) {
			t.Fatal(me, seen)
		}
	}
}

// blocks are the tabled numbers of so many cells each that accesses come to.
func blocks(l []api.Access, cells int) []int {
	var all []int
	for _, a := range l {
		all = append(all, a.Cell/cells)
	}
	return slices.Compact(all)
}

// P16.1: of several with the greatest stamp the last one tells the answer, of all rows of stamps of four threads.
func TestGreatestStamp(t *testing.T) {
	r := api.Reg{Kind: api.RegMany, N: 4, Top: 9}
	for number := range 3 * 3 * 3 * 3 {
		var stamps [4]int
		for j, left := 0, number; j < 4; j, left = j+1, left/3 {
			stamps[j] = left % 3
		}
		greatest, last := 0, 0
		for j, stamp := range stamps {
			if stamp >= greatest {
				greatest, last = stamp, j
			}
		}
		for me := range 4 {
			locals := make([]int, 4*164)
			locals[164*me+1] = stamps[me]*10 + me + 1
			var answers []int
			for j, stamp := range stamps {
				if j != me {
					answers = append(answers, tells(3, stamp*10+j+1)...)
				}
			}
			v, out := playRead(r, me, locals, answers)
			if v != last+1 || !out.Done || len(out.Accesses) != len(answers) {
				t.Fatal(stamps, me, v, out)
			}
			out = playWrite(r, me, 5, locals, append(answers, make([]int, 24)...))
			if !out.Done || out.Locals[164*me+1] != (greatest+1)*10+5 {
				t.Fatal(stamps, me, out)
			}
		}
	}
}

// tells are answers by which a tabled number of k readers tells x: none of its bits is up, and the other readers tell 0, and are told x.
func tells(k, x int) []int { return append([]int{0, 0, x}, make([]int, 11*(k-1))...) }

// P16.2: a read is a read of each other one's tabled number, and a write is that, and a write of the own one.
func TestWriteIsReadAndWrite(t *testing.T) {
	d := dice(8)
	for n := 1; n <= 8; n++ {
		k := n - 1
		for me := range n {
			r := registers(9, 4, n, 100)[d.below(3)]
			locals, answers := d.some(7200, []int{0, 1, 700}), d.some(enough, []int{0, 1})
			_, read := playRead(r, me, locals, answers)
			write := playWrite(r, me, 7, locals, answers)
			many := len(read.Accesses)
			if !read.Done || !write.Done || !slices.Equal(read.Accesses, write.Accesses[:many]) {
				t.Fatal(n, me, read, write)
			}
			own := write.Accesses[many:]
			for i := range own {
				own[i].Cell -= 9
			}
			// Each reader is told by a number of sixteen cells.
			if written := blocks(own, 16); len(own) > 14*k || len(written) != k || k > 0 && (written[0] != me*k*k || written[k-1] != me*k*k+k-1) {
				t.Fatal(n, me, own)
			}
			others := map[int]int{}
			for _, a := range read.Accesses {
				others[(a.Cell-9)/max(16*k*k, 1)]++
			}
			if len(others) != k || others[me] != 0 {
				t.Fatal(n, me, others)
			}
			for j, many := range others {
				if many > readCost(n) {
					t.Fatal(n, me, j, many)
				}
			}
		}
	}
}

// P16.2: the most that a write and a read cost is come to.
func TestMostCosts(t *testing.T) {
	write, read := []int{1, 0, 1, 8, 1, 0, 1, 8, 8, 0, 8, 8, 0, 8}, []int{1, 1, 1, 8, 0, 0, 0, 8, 0, 8, 1, 1, 1, 8, 1, 0, 1, 33}
	for n, costs := range map[int][2]int{1: {0, 0}, 2: {32, 18}, 3: {128, 100}, 4: {288, 246}, 8: {1568, 1470}} {
		k := n - 1
		r := api.Reg{Kind: api.RegMany, Base: 9, Local: 4, N: n, Top: 255}
		answers := slices.Concat(slices.Repeat(read, k), slices.Repeat(write, max(k-1, 0)))
		answers = slices.Concat(slices.Repeat(answers, k), slices.Repeat(write, k))
		for me := range n {
			out := holdWrite(t, r, me, 7, nil, answers)
			if !out.Done || len(out.Accesses) != costs[0] {
				t.Fatal(n, me, len(out.Accesses))
			}
			out = holdRead(t, r, me, nil, answers)
			if !out.Done || len(out.Accesses) != costs[1] {
				t.Fatal(n, me, len(out.Accesses))
			}
		}
	}
}

// R1, R7: of a nil Mem, and of one that nobody played: nothing, and 0.
func TestNobodysMem(t *testing.T) {
	for _, m := range []*tape.Mem{nil, {}} {
		for _, x := range numbers() {
			for _, place := range []int{math.MinInt, -1, 0, 1, most, math.MaxInt - 7071} {
				for _, r := range registers(place, place, x, x) {
					for me := -1; me < 9; me++ {
						Write(m, r, me, x)
						if v := Read(m, r, me); v != 0 {
							t.Fatal(x, me, v)
						}
					}
				}
			}
		}
	}
}
