package cell

import (
	"math"
	"math/big"
	"slices"
	"strconv"
	"strings"
	"testing"

	"kevel/api"
)

const (
	safe    = api.CellSafe
	regular = api.CellRegular
	atomic  = api.CellAtomic
	// none is no kind of cells.
	none = 4
	// word is the greatest of all values.
	word = 1 << 40
	// threads is how many threads there may be.
	threads = 8
)

// odd are numbers that are no thread, no kind of accesses, and no kind of cells: some have a small one's lower bits.
func odd() []int {
	return []int{math.MinInt, math.MinInt + 1, -1 << 32, -257, -256, -255, -8, -3, -2, -1, 8, 9, 16, 255, 256, 257, 258, 1 << 16, 1 << 32, 1<<32 + 1, 1<<32 + 2, 1 << 62, math.MaxInt - 1, math.MaxInt}
}

// kinds are kinds of cells, and numbers that are none.
func kinds() []int { return append(odd(), 0, safe, regular, atomic, none, 5) }

// edges are numbers at, and beside, the limits of what a cell has.
func edges() []int {
	return []int{math.MinInt, math.MinInt + 1, -word - 1, -word, -word + 1, -10, -2, -1, 0, 1, 2, 3, 9, 10, 254, 255, 256, 1 << 20, 1 << 32, word - 2, word - 1, word, word + 1, word + 2, 1 << 62, math.MaxInt - 1, math.MaxInt}
}

// nearest is the nearest number from 0 to a greatest one, which counts as from 0 to word.
func nearest(n, top int) int {
	if top > word {
		top = word
	}
	if top < 0 || n < 0 {
		return 0
	}
	if n > top {
		return top
	}
	return n
}

// modulo is what is left of n, from 0 on, below 0, too.
func modulo(n, many int) int {
	return int(new(big.Int).Mod(big.NewInt(int64(n)), big.NewInt(int64(many))).Int64())
}

// seen is an access, with when it began, and when it was over (-1: not yet).
type seen struct{ thread, kind, val, from, to int }

// past is a cell told from all that ever happened to it, word by word as the chapter tells it.
type past struct {
	kind, top, now int
	all            []seen
}

func newPast(kind, top int) *past { return &past{kind: kind, top: nearest(top, word)} }

// open is which access of a thread is under way.
func (p *past) open(t int) int {
	return slices.IndexFunc(p.all, func(s seen) bool { return s.thread == t && s.to < 0 })
}

func (p *past) begin(t int, a api.Access) api.Errno {
	if t < 0 || t > 7 || a.Kind < 1 || a.Kind > 2 {
		return api.ErrArg
	}
	if p.open(t) >= 0 {
		return api.ErrBusy
	}
	p.now++
	p.all = append(p.all, seen{thread: t, kind: a.Kind, val: nearest(a.Val, p.top), from: p.now, to: -1})
	return api.OK
}

func (p *past) end(t, draw int) (int, api.Errno) {
	i := p.open(t)
	if i < 0 {
		return 0, api.ErrNone
	}
	p.now++
	p.all[i].to = p.now
	if p.all[i].kind == api.AcWrite {
		return 0, api.OK
	}
	switch p.kind {
	case safe:
		if p.overlapped(p.all[i]) {
			return modulo(draw, p.top+1), api.OK
		}
	case regular:
		l := p.candidates(p.all[i])
		return l[modulo(draw, len(l))], api.OK
	}
	return p.valueAt(p.now), api.OK
}

// valueAt is what the write wrote that was over last by a time.
func (p *past) valueAt(now int) int {
	v, last := 0, -1
	for _, s := range p.all {
		if s.kind == api.AcWrite && s.to > last && s.to <= now {
			v, last = s.val, s.to
		}
	}
	return v
}

// overlapped is whether a write was under way at a moment between a read's beginning and its end.
func (p *past) overlapped(read seen) bool {
	return slices.ContainsFunc(p.all, func(s seen) bool {
		return s.kind == api.AcWrite && s.from < read.to && (s.to < 0 || s.to > read.from)
	})
}

// candidates are what a read may tell, in order.
func (p *past) candidates(read seen) []int {
	l := []int{p.valueAt(read.from)}
	for t := range threads {
		for _, s := range p.all {
			if s.thread == t && s.kind == api.AcWrite && s.from < read.from && (s.to < 0 || s.to > read.from) {
				l = append(l, s.val)
			}
		}
	}
	for _, s := range p.all {
		if s.kind == api.AcWrite && s.from > read.from && s.from < read.to {
			l = append(l, s.val)
		}
	}
	return l
}

func (p *past) busy() int {
	n := 0
	for _, s := range p.all {
		if s.to < 0 {
			n++
		}
	}
	return n
}

// step is a call: of Begin, or, if it ends, of End with a draw.
type step struct {
	thread int
	access api.Access
	ends   bool
	draw   int
}

// hold does steps to a cell and to what is told from its past, and holds all that they answer against one another.
func hold(t *testing.T, kind, top int, l []step) {
	t.Helper()
	c, p := New(kind, top), newPast(kind, top)
	for i, s := range l {
		if s.ends {
			v, e := c.End(s.thread, s.draw)
			if want, wantE := p.end(s.thread, s.draw); v != want || e != wantE {
				t.Fatalf("kind %d, top %d, %v: %d, %d in place of %d, %d", kind, top, l[:i+1], v, e, want, wantE)
			}
		} else if e, want := c.Begin(s.thread, s.access), p.begin(s.thread, s.access); e != want {
			t.Fatalf("kind %d, top %d, %v: %d in place of %d", kind, top, l[:i+1], e, want)
		}
		if v, want := c.Value(), p.valueAt(p.now); v != want {
			t.Fatalf("kind %d, top %d, %v: value %d in place of %d", kind, top, l[:i+1], v, want)
		}
		if n, want := c.Busy(), p.busy(); n != want {
			t.Fatalf("kind %d, top %d, %v: busy %d in place of %d", kind, top, l[:i+1], n, want)
		}
	}
}

// read is that a thread begins a read.
func read(t int) step { return step{thread: t, access: api.Access{Kind: api.AcRead}} }

// write is that a thread begins a write.
func write(t, v int) step { return step{thread: t, access: api.Access{Kind: api.AcWrite, Val: v}} }

// end is that a thread ends what it has under way.
func end(t, draw int) step { return step{thread: t, ends: true, draw: draw} }

// steps are those of a text: r1 is a read of the thread 1, w0=4 a write of 4, e1 an end, e1/17 one with a draw.
func steps(text string) []step {
	var l []step
	for _, s := range strings.Fields(text) {
		t, n := int(s[1]-'0'), 0
		if len(s) > 2 {
			n, _ = strconv.Atoi(s[3:])
		}
		switch s[0] {
		case 'r':
			l = append(l, read(t))
		case 'w':
			l = append(l, write(t, n))
		default:
			l = append(l, end(t, n))
		}
	}
	return l
}

// told does steps to a cell, none of which may tell an error, and is what each end told.
func told(t *testing.T, c *Cell, l []step) []int {
	t.Helper()
	var tells []int
	for _, s := range l {
		if !s.ends {
			if e := c.Begin(s.thread, s.access); e != api.OK {
				t.Fatal(s, e)
			}
			continue
		}
		v, e := c.End(s.thread, s.draw)
		if e != api.OK {
			t.Fatal(s, v, e)
		}
		tells = append(tells, v)
	}
	return tells
}

// last is what the last end of a text's steps tells.
func last(t *testing.T, kind, top int, text string) int {
	t.Helper()
	l := told(t, New(kind, top), steps(text))
	return l[len(l)-1]
}

// with is a text with a draw at its end.
func with(text string, draw int) string { return text + "/" + strconv.Itoa(draw) }

// dice are numbers that follow on one another by a rule, the same ones each time.
type dice uint64

// roll is a number below n.
func (d *dice) roll(n int) int {
	*d = *d*6364136223846793005 + 1442695040888963407
	return int(uint64(*d)>>33) % n
}

// run are many steps of some threads, of which some are wrong, if they may be.
func (d *dice) run(many, n int, wrong bool) []step {
	l := make([]step, many)
	var busy [threads]bool
	for i := range l {
		t := d.roll(n)
		values, draws := edges(), edges()
		v, draw := values[d.roll(len(values))], draws[d.roll(len(draws))]
		if d.roll(2) == 0 {
			v, draw = d.roll(30), d.roll(40)-20
		}
		switch ends := busy[t] != (wrong && d.roll(6) == 0); {
		case wrong && d.roll(12) == 0:
			l[i] = step{thread: odd()[d.roll(len(odd()))], access: api.Access{Kind: 1 + d.roll(2), Val: v}, ends: d.roll(2) == 0, draw: draw}
		case wrong && d.roll(12) == 0:
			l[i] = step{thread: t, access: api.Access{Kind: append(odd(), 0, 3)[d.roll(len(odd())+2)], Val: v}}
		case ends:
			l[i], busy[t] = end(t, draw), false
		case d.roll(2) == 0:
			l[i], busy[t] = read(t), true
		default:
			l[i], busy[t] = write(t, v), true
		}
	}
	return l
}

// P8.1: a cell at its beginning has the value 0, and nothing under way, whatever its kind and its greatest value.
func TestNew(t *testing.T) {
	for _, kind := range kinds() {
		for _, top := range edges() {
			c := New(kind, top)
			if c == nil || c.Value() != 0 || c.Busy() != 0 {
				t.Fatal(kind, top, c)
			}
			if l := told(t, c, steps("r0 e0/5 r7 e7/-1")); !slices.Equal(l, []int{0, 0}) {
				t.Fatal(kind, top, l)
			}
		}
	}
}

// P8.1: what is written is the nearest value from 0 to the greatest one, which counts as from 0 to 2^40.
func TestWrittenIsCut(t *testing.T) {
	for _, kind := range kinds() {
		for _, top := range edges() {
			for _, v := range edges() {
				c, want := New(kind, top), nearest(v, top)
				if l := told(t, c, []step{write(3, v), end(3, 8), read(3), end(3, 9)}); l[0] != 0 || l[1] != want || c.Value() != want {
					t.Fatal(kind, top, v, l, c.Value())
				}
			}
		}
	}
	for _, x := range []struct{ top, v, want int }{
		{9, 4, 4}, {9, 9, 9}, {9, 10, 9}, {9, -1, 0}, {0, 1, 0}, {1, 7, 1}, {-5, 3, 0}, {math.MinInt, 3, 0},
		{word, word, word}, {word, word + 1, word}, {word - 1, word, word - 1}, {word + 1, word + 1, word}, {math.MaxInt, math.MaxInt, word},
	} {
		c := New(regular, x.top)
		if told(t, c, []step{write(0, x.v), end(0, 0)}); c.Value() != x.want {
			t.Fatal(x, c.Value())
		}
	}
}

// P8.1: a read of a regular cell tells what is written as it is cut, too.
func TestCandidatesAreCut(t *testing.T) {
	for _, top := range edges() {
		for _, v := range edges() {
			want := []int{0, nearest(v, top), nearest(v, top)}
			for i, x := range want {
				l := told(t, New(regular, top), []step{write(0, v), read(1), write(2, v), end(1, i)})
				if l[0] != x {
					t.Fatal(top, v, i, l)
				}
			}
		}
	}
}

// P8.1: a draw is wrapped into what a safe cell may have, which counts as from 0 to 2^40.
func TestDrawIsWrapped(t *testing.T) {
	for _, top := range edges() {
		for _, draw := range edges() {
			want := modulo(draw, nearest(top, word)+1)
			if l := told(t, New(safe, top), []step{write(0, 1), read(1), end(1, draw)}); l[0] != want {
				t.Fatal(top, draw, l)
			}
		}
	}
	for _, x := range []struct{ top, draw, want int }{
		{9, 17, 7}, {9, 9, 9}, {9, 10, 0}, {9, -1, 9}, {9, -10, 0}, {9, -11, 9}, {1, -3, 1}, {0, 5, 0}, {-4, 5, 0},
		{word, word, word}, {word, word + 1, 0}, {word, -1, word}, {word + 5, word + 1, 0}, {math.MaxInt, -1, word}, {255, math.MinInt, 0}, {255, math.MaxInt, 255},
	} {
		if got := last(t, safe, x.top, with("w0=4 r1 e1", x.draw)); got != x.want {
			t.Fatal(x, got)
		}
	}
}

// P8.1: the value is the old one till the write is over, of all kinds; of writes that overlap the last one that is over holds.
func TestValue(t *testing.T) {
	for _, kind := range kinds() {
		c := New(kind, 9)
		for _, x := range []struct {
			text        string
			value, busy int
		}{
			{"w0=4", 0, 1}, {"w7=5", 0, 2}, {"r3", 0, 3}, {"e0", 4, 2}, {"w0=6", 4, 3}, {"e7/3", 5, 2}, {"e3", 5, 1}, {"r3", 5, 2}, {"w1=7", 5, 3}, {"w2=8", 5, 4},
			{"e2", 8, 3}, {"e1", 7, 2}, {"e0", 6, 1}, {"e3", 6, 0},
		} {
			if told(t, c, steps(x.text)); c.Value() != x.value || c.Busy() != x.busy {
				t.Fatal(kind, x, c.Value(), c.Busy())
			}
		}
	}
}

// P8.1: Busy counts the accesses of all threads.
func TestBusy(t *testing.T) {
	for _, kind := range kinds() {
		c := New(kind, 9)
		for i := range threads {
			c.Begin(i, api.Access{Kind: 1 + i%2, Val: 3})
			if c.Busy() != i+1 {
				t.Fatal(kind, i, c.Busy())
			}
		}
		for i := range threads {
			c.End(threads-1-i, i)
			if c.Busy() != threads-1-i {
				t.Fatal(kind, i, c.Busy())
			}
		}
	}
}

// P8.1: an atomic cell's read tells the value as it is over.
func TestAtomic(t *testing.T) {
	for _, x := range []struct {
		text string
		want int
	}{
		{"r1 e1", 0},
		{"w0=4 r1 e1", 0},
		{"w0=4 r1 e0 e1", 4},
		{"r1 w0=4 e1", 0},
		{"r1 w0=4 e0 e1", 4},
		{"w0=4 e0 r1 e1", 4},
		{"w0=4 w2=5 r1 e0 e2 e1", 5},
		{"w0=4 w2=5 r1 e2 e0 e1", 4},
		{"w0=4 w2=5 r1 e2 e1", 5},
		{"r1 w0=4 e0 w0=5 e1", 4},
		{"r1 w0=4 e0 w0=5 e0 e1", 5},
		{"w0=4 e0 r1 w0=5 r2 e0 e1 e2", 5},
	} {
		for _, kind := range append(odd(), 0, atomic, none, 5) {
			for _, draw := range edges() {
				if got := last(t, kind, 9, with(x.text, draw)); got != x.want {
					t.Fatal(kind, x, draw, got)
				}
			}
		}
	}
}

// P8.1: a safe cell's read that no write overlaps tells the value, whatever the draw.
func TestSafeWithoutOverlapping(t *testing.T) {
	for _, x := range []struct {
		text string
		want int
	}{
		{"r1 e1", 0},
		{"w0=4 e0 r1 e1", 4},
		{"w1=4 e1 r1 e1", 4},
		{"w0=4 e0 r1 r2 e2 e1", 4},
		{"w0=4 r1 e1 e0 r1 e1", 4},
		{"w0=4 w2=5 e2 e0 r1 e1", 4},
		{"w0=4 w2=5 e0 e2 r1 e1", 5},
		{"r1 w0=4 e0 e1 r1 e1", 4},
		{"r1 w0=4 e1 e0 r1 r2 e1", 4},
	} {
		for _, draw := range edges() {
			if got := last(t, safe, 9, with(x.text, draw)); got != x.want {
				t.Fatal(x, draw, got)
			}
		}
	}
}

// P8.1: a safe cell's read that a write overlaps in any way tells the draw, whatever is written.
func TestSafeOverlapped(t *testing.T) {
	for _, text := range []string{
		"w0=4 r1 e1",
		"w0=0 r1 e1",
		"w0=4 r1 e0 e1",
		"r1 w0=4 e1",
		"r1 w0=4 e0 e1",
		"r1 w0=0 e0 e1",
		"w0=4 e0 r1 w0=4 e0 e1",
		"w7=4 w0=3 e7 r1 e0 e1",
		"w0=3 w7=4 e0 r1 e7 e1",
		"r1 w0=4 e0 w2=5 e2 e1",
		"r7 r1 w0=4 e0 e7 r7 e1",
		"r1 w0=4 e0 r7 e7 e1",
		"r7 e7 r7 w6=4 e6 e7",
		"w0=4 r1 e1 r1 e1",
		"r1 w0=4 e1 r1 e0 e1",
	} {
		for draw := range 30 {
			if got := last(t, safe, 9, with(text, draw)); got != draw%10 {
				t.Fatal(text, draw, got)
			}
		}
	}
}

// P8.1: what a regular cell's read may tell, in order.
func TestRegular(t *testing.T) {
	for _, x := range []struct {
		text string
		want []int
	}{
		{"r1 e1", []int{0}},
		{"w0=4 e0 r1 e1", []int{4}},
		{"w0=4 r1 e1", []int{0, 4}},
		{"w0=4 r1 e0 e1", []int{0, 4}},
		{"r1 w0=4 e1", []int{0, 4}},
		{"r1 w0=4 e0 e1", []int{0, 4}},
		{"w0=4 e0 r1 w0=4 e0 e1", []int{4, 4}},
		{"w0=4 e0 r1 w0=5 e1", []int{4, 5}},
		// Those that were under way stand by their threads, not as they began.
		{"w2=5 w0=4 r1 e1", []int{0, 4, 5}},
		{"w0=4 w2=5 r1 e1", []int{0, 4, 5}},
		{"w7=7 w3=3 w5=5 w0=6 r1 e1", []int{0, 6, 3, 5, 7}},
		{"w7=7 w3=3 e7 w5=5 r1 e1", []int{7, 3, 5}},
		{"w7=7 w3=3 e7 w5=5 r1 e3 e5 e1", []int{7, 3, 5}},
		// Those that began since stand as they began, not by their threads, behind those that were under way.
		{"r1 w7=7 w0=6 e1", []int{0, 7, 6}},
		{"r1 w0=6 w7=7 e1", []int{0, 6, 7}},
		{"r1 w0=6 w7=7 e7 e0 e1", []int{0, 6, 7}},
		{"w5=5 r1 w0=6 e1", []int{0, 5, 6}},
		{"w5=5 w3=3 r1 w2=2 w0=6 e1", []int{0, 3, 5, 2, 6}},
		{"r1 w0=1 e0 w0=2 e0 w0=1 e1", []int{0, 1, 2, 1}},
		{"w0=9 r1 e0 w0=8 e0 w2=7 e2 e1", []int{0, 9, 8, 7}},
		// What is over is nothing to the next read.
		{"w0=9 r1 e1 r1 e1", []int{0, 9}},
		{"w0=9 r1 w2=3 e1 e0 r1 e1", []int{9, 3}},
		{"r1 w0=1 e0 w0=2 e0 e1 r1 e1", []int{2}},
		{"r1 w0=1 e0 w0=2 e0 r3 e3", []int{2}},
		{"w0=9 e0 r1 w0=8 r2 e0 w0=7 r3 e1 e2 e3", []int{8, 7}},
		{"w0=9 e0 r1 w0=8 r2 e0 w0=7 r3 e1 e3 e2", []int{9, 8, 7}},
	} {
		for i := -40; i < 40; i++ {
			if got := last(t, regular, 9, with(x.text, i)); got != x.want[modulo(i, len(x.want))] {
				t.Fatal(x, i, got)
			}
		}
		for _, draw := range edges() {
			if got := last(t, regular, 9, with(x.text, draw)); got != x.want[modulo(draw, len(x.want))] {
				t.Fatal(x, draw, got)
			}
		}
	}
}

// P8.1: a regular cell's reads that are under way together have each its own candidates, however many.
func TestRegularReadsTogether(t *testing.T) {
	for many := 1; many <= 40; many++ {
		for reader := range threads - 1 {
			for draw := range many + 3 {
				var l []step
				for i := range threads - 1 {
					l = append(l, write(7, 100+i), read(i), end(7, 0))
				}
				for i := range many {
					l = append(l, write(7, 200+i), end(7, 0))
				}
				for i := range threads - 1 {
					l = append(l, end((reader+i)%(threads-1), draw))
				}
				hold(t, regular, 255, l)
			}
		}
	}
}

// P8.1: a read begins with as many candidates as there may be, and goes on with more.
func TestRegularAllThreads(t *testing.T) {
	for reader := range threads {
		for more := range 12 {
			for draw := range threads + more {
				var l []step
				for i := range threads {
					if t := threads - 1 - i; t != reader {
						l = append(l, write(t, 10+t))
					}
				}
				l = append(l, read(reader))
				other := (reader + 1) % threads
				for i := range more {
					l = append(l, end(other, 0), write(other, 30+i))
				}
				hold(t, regular, 255, append(l, end(reader, draw)))
			}
		}
	}
}

// P8.1: a read may be under way while very many writes are.
func TestRegularLong(t *testing.T) {
	const many = 300000
	for _, draw := range []int{0, 1, 2, many / 2, many - 1, many, many + 1, -1, -many, math.MaxInt, math.MinInt} {
		c := New(regular, word)
		c.Begin(0, api.Access{Kind: api.AcRead})
		for i := 1; i <= many; i++ {
			c.Begin(1, api.Access{Kind: api.AcWrite, Val: i})
			c.End(1, 0)
		}
		if v, e := c.End(0, draw); v != modulo(draw, many+1) || e != api.OK {
			t.Fatal(draw, v, e)
		}
	}
}

// P8.1: ErrArg, unless t is a thread and the kind one of accesses, ahead of ErrBusy; nothing begins.
func TestBeginWrong(t *testing.T) {
	wrong := append(odd(), 0, 3, 4)
	for _, kind := range kinds() {
		c := New(kind, 9)
		told(t, c, steps("w0=4 e0 w0=5 r1"))
		for _, x := range odd() {
			for _, k := range append(wrong, api.AcRead, api.AcWrite) {
				if e := c.Begin(x, api.Access{Kind: k, Val: 7}); e != api.ErrArg {
					t.Fatal(kind, x, k, e)
				}
			}
		}
		for i := range threads {
			for _, k := range wrong {
				if e := c.Begin(i, api.Access{Kind: k, Val: 7}); e != api.ErrArg {
					t.Fatal(kind, i, k, e)
				}
			}
		}
		if c.Busy() != 2 || c.Value() != 4 {
			t.Fatal(kind, c.Busy(), c.Value())
		}
		if l := told(t, c, steps("e1/1 e0 r1 e1/8")); l[2] != 5 || c.Busy() != 0 {
			t.Fatal(kind, l, c.Busy())
		}
	}
}

// P8.1: ErrBusy, if an access of the thread is under way, which goes on as it was.
func TestBeginBusy(t *testing.T) {
	for i := range threads {
		for _, kind := range kinds() {
			for _, k := range []int{api.AcRead, api.AcWrite} {
				c := New(kind, 9)
				c.Begin(i, api.Access{Kind: api.AcWrite, Val: 4})
				if e := c.Begin(i, api.Access{Kind: k, Val: 7}); e != api.ErrBusy || c.Busy() != 1 || c.Value() != 0 {
					t.Fatal(i, kind, k, e)
				}
				if v, e := c.End(i, 3); v != 0 || e != api.OK || c.Value() != 4 {
					t.Fatal(i, kind, k, v, e, c.Value())
				}
				c.Begin(i, api.Access{Kind: api.AcRead})
				if e := c.Begin(i, api.Access{Kind: k, Val: 7}); e != api.ErrBusy || c.Busy() != 1 || c.Value() != 4 {
					t.Fatal(i, kind, k, e)
				}
				if v, e := c.End(i, 3); v != 4 || e != api.OK || c.Value() != 4 || c.Busy() != 0 {
					t.Fatal(i, kind, k, v, e, c.Value())
				}
			}
		}
	}
}

// P8.1, R4: a write that did not begin overlaps nothing.
func TestWrongOverlapsNothing(t *testing.T) {
	for _, kind := range []int{safe, regular, atomic} {
		for draw := range 10 {
			c := New(kind, 9)
			told(t, c, steps("w0=4 e0 r1"))
			for _, x := range odd() {
				c.Begin(x, api.Access{Kind: api.AcWrite, Val: 7})
				c.Begin(0, api.Access{Kind: x, Val: 7})
			}
			c.Begin(1, api.Access{Kind: api.AcWrite, Val: 7})
			c.End(0, 7)
			if v, e := c.End(1, draw); v != 4 || e != api.OK {
				t.Fatal(kind, draw, v, e)
			}
		}
	}
}

// P8.1: ErrNone, if no access of the thread is under way: of what is no thread, of one that began none, of one that is over.
func TestEndNone(t *testing.T) {
	for _, kind := range kinds() {
		c := New(kind, 9)
		told(t, c, steps("w0=4 e0 r2 e2 w3=6 r4"))
		for _, x := range append(odd(), 0, 1, 2, 5, 6, 7) {
			for _, draw := range []int{0, 3, -1} {
				if v, e := c.End(x, draw); v != 0 || e != api.ErrNone || c.Busy() != 2 || c.Value() != 4 {
					t.Fatal(kind, x, v, e, c.Busy(), c.Value())
				}
			}
		}
		told(t, c, steps("e4 e3"))
		for x := range threads {
			if v, e := c.End(x, 3); v != 0 || e != api.ErrNone || c.Busy() != 0 || c.Value() != 6 {
				t.Fatal(kind, x, v, e, c.Busy(), c.Value())
			}
		}
	}
}

// P8.1: an access's cell plays no part, nor does a read's value, nor a write's draw.
func TestWhatPlaysNoPart(t *testing.T) {
	for _, kind := range kinds() {
		for _, x := range edges() {
			c := New(kind, 9)
			if e := c.Begin(0, api.Access{Kind: api.AcWrite, Cell: x, Val: 4}); e != api.OK {
				t.Fatal(kind, x, e)
			}
			if v, e := c.End(0, x); v != 0 || e != api.OK || c.Value() != 4 {
				t.Fatal(kind, x, v, e, c.Value())
			}
			if e := c.Begin(1, api.Access{Kind: api.AcRead, Cell: x, Val: x}); e != api.OK {
				t.Fatal(kind, x, e)
			}
			if v, e := c.End(1, x); v != 4 || e != api.OK {
				t.Fatal(kind, x, v, e)
			}
		}
	}
}

// P8.1: all short rows of accesses of three threads, and what each read in them tells with each of some draws.
func TestAllShortRows(t *testing.T) {
	for _, kind := range []int{safe, regular, atomic} {
		row := make([]step, 0, 7)
		var busy [3]bool
		var goOn func()
		goOn = func() {
			if len(row) == cap(row) {
				hold(t, kind, 5, row)
				return
			}
			for i, is := range busy {
				next := []step{read(i), write(i, len(row)+1)}
				if is {
					next = []step{end(i, 1), end(i, -2)}
				}
				busy[i] = !is
				for _, s := range next {
					row = append(row, s)
					goOn()
					row = row[:len(row)-1]
				}
				busy[i] = is
			}
		}
		goOn()
	}
}

// P8.1: long rows of calls of all threads, some of which are wrong.
func TestLongRows(t *testing.T) {
	var d dice = 8
	for _, kind := range append(kinds(), safe, regular, regular, regular) {
		for _, top := range append(edges(), 1, 5, 9, 30) {
			for n := 1; n <= threads; n++ {
				hold(t, kind, top, d.run(60, n, n%2 == 0))
			}
		}
	}
}

// P8.2: a nil cell.
func TestNil(t *testing.T) {
	var c *Cell
	for _, x := range append(odd(), 0, 1, 2, 7) {
		for _, k := range append(odd(), 0, api.AcRead, api.AcWrite, 3) {
			if e := c.Begin(x, api.Access{Kind: k, Val: 4}); e != api.ErrNil {
				t.Fatal(x, k, e)
			}
		}
		if v, e := c.End(x, 17); v != 0 || e != api.ErrNil {
			t.Fatal(x, v, e)
		}
	}
	if c.Value() != 0 || c.Busy() != 0 {
		t.Fatal(c.Value(), c.Busy())
	}
}

// P8.3: without overlapping all kinds are the same: a read tells what was written last.
func TestAlone(t *testing.T) {
	for _, kind := range kinds() {
		for _, top := range edges() {
			var d dice = 3
			c, want := New(kind, top), 0
			for range 60 {
				i, v, draw := d.roll(threads), edges()[d.roll(len(edges()))], edges()[d.roll(len(edges()))]
				if d.roll(2) == 0 {
					told(t, c, []step{write(i, v), end(i, draw)})
					want = nearest(v, top)
				} else if l := told(t, c, []step{read(i), end(i, draw)}); l[0] != want {
					t.Fatal(kind, top, l, want)
				}
				if c.Value() != want {
					t.Fatal(kind, top, c.Value(), want)
				}
			}
		}
	}
}

// P8.3: reads that overlap but reads tell what was written last, too.
func TestReadsAlone(t *testing.T) {
	for _, kind := range kinds() {
		c := New(kind, 9)
		for v := range 10 {
			l := told(t, c, append([]step{write(v%threads, v), end(v%threads, 0)}, steps("r0 r1 r7 e1/3 r1 e0/-1 e7/8 e1/17")...))
			if !slices.Equal(l, []int{0, v, v, v, v}) {
				t.Fatal(kind, v, l)
			}
		}
	}
}

// P8.4: what is told is from 0 to the greatest value; of a regular cell it was there, or was written by one that overlaps.
func TestToldIsWithin(t *testing.T) {
	var d dice = 4
	for _, kind := range kinds() {
		for _, top := range edges() {
			c, written := New(kind, top), map[int]int{0: 1}
			for _, s := range d.run(200, threads, false) {
				if !s.ends {
					c.Begin(s.thread, s.access)
					if s.access.Kind == api.AcWrite {
						written[nearest(s.access.Val, top)]++
					}
					continue
				}
				v, e := c.End(s.thread, s.draw)
				if e != api.OK || v < 0 || v > nearest(top, word) || c.Value() < 0 || c.Value() > nearest(top, word) {
					t.Fatal(kind, top, v, e, c.Value())
				}
				if kind != safe && written[v] == 0 {
					t.Fatal(kind, top, v)
				}
			}
		}
	}
}

// P8.4: of an atomic cell the order of ends tells all: each access might as well begin just as it is over.
func TestAtomicByEnds(t *testing.T) {
	var d dice = 5
	for range 300 {
		var under [threads]step
		var late []step
		l := d.run(60, threads, false)
		for _, s := range l {
			if !s.ends {
				under[s.thread] = s
				continue
			}
			late = append(late, under[s.thread], s)
		}
		for _, kind := range []int{atomic, none, 0, -1} {
			if a, b := told(t, New(kind, 30), l), told(t, New(kind, 30), late); !slices.Equal(a, b) {
				t.Fatal(kind, l, a, b)
			}
		}
	}
}

// R4: what is asked of a cell hangs on what was done to it alone.
func TestCellsApart(t *testing.T) {
	var d dice = 6
	for _, kind := range []int{safe, regular, atomic} {
		for range 100 {
			a, b := d.run(80, threads, false), d.run(80, threads, false)
			wantA, wantB := told(t, New(kind, 30), a), told(t, New(kind, 30), b)
			one, other := New(kind, 30), New(kind, 30)
			var gotA, gotB []int
			for i := range a {
				gotA = append(gotA, told(t, one, a[i:i+1])...)
				gotB = append(gotB, told(t, other, b[i:i+1])...)
			}
			if !slices.Equal(gotA, wantA) || !slices.Equal(gotB, wantB) {
				t.Fatal(kind, gotA, gotB)
			}
		}
	}
}

// R1: a cell that New did not make is one of no kind, up to 0.
func TestUnfilled(t *testing.T) {
	var c Cell
	if l := told(t, &c, steps("w0=4 r1 e0 e1/5 r7 e7/-1")); !slices.Equal(l, []int{0, 0, 0}) || c.Value() != 0 || c.Busy() != 0 {
		t.Fatal(l, c.Value(), c.Busy())
	}
}
