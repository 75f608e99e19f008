package tape

import (
	"errors"
	"math"
	"runtime"
	"slices"
	"testing"

	"kevel/api"
)

// most is how many locals there are.
const most = 32768

// nowhere are numbers that no local has: some have a small one's lower bits.
func nowhere() []int {
	return []int{math.MinInt, math.MinInt + 1, -1 << 32, -most, -2, -1, most, most + 1, 1 << 16, 1 << 32, 1<<32 + 1, 1 << 62, math.MaxInt - 1, math.MaxInt}
}

// values are values of cells and locals, and of kinds of notes: any number is one.
func values() []int {
	return []int{math.MinInt, -1 << 40, -2, -1, 0, 1, 2, 5, 9, 255, 1 << 40, 1 << 41, math.MaxInt}
}

// machine is what an operation may ask for: a Mem, or a log.
type machine interface {
	Read(cell int) int
	Write(cell, v int)
	Get(at int) int
	Set(at, v int)
	Note(kind int)
}

// entry is something that an operation did: an access, a note, or a local set.
type entry struct {
	access api.Access
	note   bool
	sets   bool
	at, v  int
}

// log is all that an operation does that gets as many answers as it wants: behind those given, nines.
type log struct {
	answers []int
	locals  map[int]int
	done    []entry
	asked   int
}

func (l *log) next() int {
	l.asked++
	if l.asked > len(l.answers) {
		return 9
	}
	return l.answers[l.asked-1]
}

func (l *log) Read(cell int) int {
	l.done = append(l.done, entry{access: api.Access{Kind: api.AcRead, Cell: cell}})
	return l.next()
}

func (l *log) Write(cell, v int) {
	l.done = append(l.done, entry{access: api.Access{Kind: api.AcWrite, Cell: cell, Val: v}})
	l.next()
}

func (l *log) Get(at int) int { return l.locals[at] }

func (l *log) Set(at, v int) {
	if at >= 0 && at < most {
		l.locals[at] = v
		l.done = append(l.done, entry{sets: true, at: at, v: v})
	}
}

func (l *log) Note(kind int) { l.done = append(l.done, entry{note: true, v: kind}) }

// newLog is a log with some locals.
func newLog(locals, answers []int) *log {
	l := &log{answers: answers, locals: map[int]int{}}
	for i, v := range locals {
		if i < most {
			l.locals[i] = v
		}
	}
	return l
}

// cut is what comes of what an operation did, if there are but so many answers.
func cut(done []entry, locals []int, many int) api.Out {
	room := make([]int, most)
	copy(room, locals)
	out := api.Out{Done: true}
	for _, d := range done {
		switch {
		case d.note:
			out.Notes = append(out.Notes, api.Note{Kind: d.v, At: len(out.Accesses)})
		case d.sets:
			room[d.at] = d.v
		default:
			out.Accesses = append(out.Accesses, d.access)
			out.Done = len(out.Accesses) <= many
		}
		if !out.Done {
			break
		}
	}
	for i, v := range room {
		if v != 0 {
			out.Locals = slices.Clone(room[:i+1])
		}
	}
	return out
}

// alike is whether what came of two operations is the same; lists that are nil are empty ones.
func alike(a, b api.Out) bool {
	return a.Done == b.Done && slices.Equal(a.Accesses, b.Accesses) && slices.Equal(a.Notes, b.Notes) && slices.Equal(a.Locals, b.Locals)
}

// hold plays an operation that comes to its end with each number of answers up to a few more than it needs, and holds what comes of it against what it logs.
func hold(t *testing.T, do func(m machine) int, locals, answers []int) {
	t.Helper()
	l := newLog(locals, answers)
	answered := do(l)
	all := append(slices.Clone(answers), slices.Repeat([]int{9}, max(l.asked-len(answers), 0)+3)...)
	for many := range l.asked + 3 {
		want, wanted := cut(l.done, locals, many), 0
		if want.Done {
			wanted = answered
		}
		got, out := Play(func(m *Mem) int { return do(m) }, locals, all[:many])
		if got != wanted || !alike(out, want) {
			t.Fatalf("%d answers: %d, %+v in place of %d, %+v", many, got, out, wanted, want)
		}
	}
}

// dice are numbers that follow on one another by a rule, the same ones each time.
type dice uint64

// roll is a number below n.
func (d *dice) roll(n int) int {
	*d = *d*6364136223846793005 + 1442695040888963407
	return int(uint64(*d)>>33) % n
}

// pick is one of some numbers.
func (d *dice) pick(l []int) int { return l[d.roll(len(l))] }

// list are some numbers below n.
func (d *dice) list(many, n int) []int {
	l := make([]int, many)
	for i := range l {
		l[i] = d.roll(n)
	}
	return l
}

// wander is an operation that does what its answers and locals lead it to, step by step.
func wander(seed, steps int) func(m machine) int {
	return func(m machine) int {
		d, x := dice(seed), 1
		for range steps {
			d += dice(x)
			switch d.roll(6) {
			case 0, 1:
				x += 3 * m.Read(d.pick(values()))
			case 2:
				m.Write(d.roll(9), x+d.pick(values()))
			case 3:
				x += 5 * m.Get(d.roll(12)-2)
			case 4:
				m.Set(d.roll(12)-2, x%4)
			default:
				m.Note(d.pick(values()))
			}
		}
		return x
	}
}

// wait is a lock's operation: a door, a wait till a cell tells 0, a ticket in a local.
func wait(m machine) int {
	m.Note(api.NoteDoor)
	m.Write(0, 1)
	ticket := max(m.Read(2), m.Read(3)) + 1
	m.Write(1, ticket)
	m.Set(0, ticket)
	m.Write(0, 0)
	m.Note(api.NoteBehind)
	for m.Read(2) != 0 {
	}
	m.Note(api.NoteIn)
	return m.Get(0) + m.Get(1)
}

// copyCell reads the cell 3, and writes that into the cell 4.
func copyCell(m *Mem) int {
	x := m.Read(3)
	m.Write(4, x)
	return x
}

// P10.1, P10.2: the chapter's example, and the same with each other number of answers.
func TestExample(t *testing.T) {
	read, write := api.Access{Kind: api.AcRead, Cell: 3}, api.Access{Kind: api.AcWrite, Cell: 4, Val: 7}
	for i, c := range []struct {
		answers []int
		want    api.Out
		told    int
	}{
		{nil, api.Out{Accesses: []api.Access{read}}, 0},
		{[]int{7}, api.Out{Accesses: []api.Access{read, write}}, 0},
		{[]int{7, 5}, api.Out{Done: true, Accesses: []api.Access{read, write}}, 7},
		{[]int{7, 5, 6}, api.Out{Done: true, Accesses: []api.Access{read, write}}, 7},
	} {
		if v, out := Play(copyCell, nil, c.answers); v != c.told || !alike(out, c.want) {
			t.Fatal(i, v, out)
		}
	}
}

// P10.1: an operation that does nothing, and one that there is not, are at their end at once, and leave the locals.
func TestNothing(t *testing.T) {
	for _, locals := range [][]int{nil, {}, {0, 0}, {1}, {0, 4, 0, 0}} {
		for _, answers := range [][]int{nil, {}, {3, 4}} {
			for _, do := range []func(m *Mem) int{nil, func(m *Mem) int { return 0 }} {
				v, out := Play(do, locals, answers)
				if v != 0 || !alike(out, api.Out{Done: true, Locals: Short(locals)}) {
					t.Fatal(locals, answers, v, out)
				}
			}
		}
	}
	if s, out := Play[[]string](nil, nil, nil); s != nil || !out.Done {
		t.Fatal(s, out)
	}
	if e, out := Play[error](nil, nil, []int{1}); e != nil || !out.Done || out.Accesses != nil || out.Notes != nil {
		t.Fatal(e, out)
	}
}

// answers plays an operation of one read that answers what it is told, of any type, to its end and not.
func answers[T any](t *testing.T, told T, same func(a, b T) bool) {
	t.Helper()
	var zero T
	do := func(m *Mem) T {
		m.Read(1)
		return told
	}
	if v, out := Play(do, nil, []int{0}); !same(v, told) || !out.Done {
		t.Fatal(v, out)
	}
	if v, out := Play(do, nil, nil); !same(v, zero) || out.Done {
		t.Fatal(v, out)
	}
}

// P10.1: what an operation answers may be of any type: it is handed on, or the zero value, if it stopped.
func TestAnswers(t *testing.T) {
	wrong := errors.New("wrong")
	answers(t, 5, func(a, b int) bool { return a == b })
	answers(t, "in", func(a, b string) bool { return a == b })
	answers(t, api.ErrTicket, func(a, b api.Errno) bool { return a == b })
	answers(t, api.Reply{Err: api.ErrBusy, Val: 4}, func(a, b api.Reply) bool { return a == b })
	answers(t, [2]bool{true, false}, func(a, b [2]bool) bool { return a == b })
	answers(t, []int{0, 3, 0}, slices.Equal[[]int])
	answers(t, &wrong, func(a, b *error) bool { return a == b })
	answers(t, wrong, func(a, b error) bool { return errors.Is(a, b) })
	answers(t, any(7), func(a, b any) bool { return a == b })
	answers(t, func() int { return 8 }, func(a, b func() int) bool { return a == nil && b == nil || a != nil && b != nil && a() == b() })
}

// P10.1, P10.2: a read tells the next answer, whatever number that is, and a write uses one up, too.
func TestAnswersInOrder(t *testing.T) {
	told := values()
	got, out := Play(func(m *Mem) []int {
		var l []int
		for i := range told {
			if i%3 == 1 {
				m.Write(i, 100)
				continue
			}
			l = append(l, m.Read(i))
		}
		return l
	}, nil, told)
	var want []int
	for i, v := range told {
		if i%3 != 1 {
			want = append(want, v)
		}
	}
	if !slices.Equal(got, want) || !out.Done || len(out.Accesses) != len(told) {
		t.Fatal(got, out)
	}
}

// P10.2: any cell, and any value, are told as they were asked for; a read has no value.
func TestAccessesAsAsked(t *testing.T) {
	for _, cell := range append(nowhere(), values()...) {
		for _, v := range values() {
			for _, many := range [][]int{{3}, {3, 4}} {
				_, out := Play(func(m *Mem) int { m.Read(cell); m.Write(cell, v); return 0 }, nil, many)
				want := []api.Access{{Kind: api.AcRead, Cell: cell}, {Kind: api.AcWrite, Cell: cell, Val: v}}
				if !slices.Equal(out.Accesses, want) || out.Done != (len(many) == 2) {
					t.Fatal(cell, v, out)
				}
			}
		}
	}
}

// P10.1, P10.2: notes, of any kind, each with how many accesses were ahead of it.
func TestNotes(t *testing.T) {
	do := func(m *Mem) int {
		for i, kind := range values() {
			m.Note(kind)
			if i%2 == 1 {
				m.Read(1)
				m.Write(1, 1)
			}
		}
		return 1
	}
	for many := range 2*len(values()) + 2 {
		_, out := Play(do, nil, make([]int, many))
		var want []api.Note
		for i, kind := range values() {
			if at := i / 2 * 2; at <= many {
				want = append(want, api.Note{Kind: kind, At: at})
			}
		}
		if !slices.Equal(out.Notes, want) {
			t.Fatal(many, out.Notes)
		}
	}
}

// P10.2: the first and the last local there are; and nothing where there is none.
func TestLocals(t *testing.T) {
	for _, at := range []int{0, 1, 2, 3, 7, 255, 256, most - 2, most - 1} {
		for _, locals := range [][]int{nil, {4}, {4, 5, 6, 0, 0}} {
			v, out := Play(func(m *Mem) int { m.Set(at, 8); return m.Get(at) + 100*m.Get(at-1) + 10000*m.Get(at+1) }, locals, nil)
			want := make([]int, max(at+1, len(locals)))
			copy(want, locals)
			want[at] = 8
			beside := func(i int) int {
				if i < 0 || i >= len(want) {
					return 0
				}
				return want[i]
			}
			if v != 8+100*beside(at-1)+10000*beside(at+1) || !slices.Equal(out.Locals, Short(want)) {
				t.Fatal(at, locals, v, len(out.Locals))
			}
		}
	}
	for _, at := range nowhere() {
		for _, locals := range [][]int{nil, {4, 5}, slices.Repeat([]int{3}, most), slices.Repeat([]int{3}, most+2)} {
			v, out := Play(func(m *Mem) int { x := m.Get(at); m.Set(at, 8); return x + m.Get(at) }, locals, nil)
			if v != 0 || !slices.Equal(out.Locals, locals[:min(len(locals), most)]) {
				t.Fatal(at, len(locals), v, len(out.Locals))
			}
		}
	}
}

// P10.1, P10.2: a local has any value, may be set again, and to 0; locals are told without noughts at their end.
func TestLocalsSet(t *testing.T) {
	for _, v := range values() {
		for _, w := range values() {
			got, out := Play(func(m *Mem) int { m.Set(2, v); m.Set(2, w); return m.Get(2) }, []int{3, 0, 9}, nil)
			if got != w || !slices.Equal(out.Locals, Short([]int{3, 0, w})) {
				t.Fatal(v, w, got, out)
			}
		}
	}
	for i, c := range []struct{ locals, want []int }{{nil, nil}, {[]int{0}, nil}, {[]int{0, 0, 0, 0, 7}, nil}, {[]int{0, 6, 0, 0, 7, 0}, []int{0, 6}}, {[]int{1, 2, 3, 4, 5, 6, 0}, []int{1, 2, 3, 4, 0, 6}}} {
		if _, out := Play(func(m *Mem) int { m.Set(4, 0); m.Set(9, 0); m.Set(9, 3); m.Set(9, 0); return m.Read(0) }, c.locals, nil); !slices.Equal(out.Locals, c.want) {
			t.Fatal(i, out.Locals)
		}
	}
}

// P10.1: locals that are handed on from one operation to the next one are kept.
func TestLocalsHandedOn(t *testing.T) {
	count := func(m *Mem) int { m.Set(1, m.Get(1)+1); return m.Get(1) }
	var locals []int
	for i := 1; i <= 5; i++ {
		v, out := Play(count, locals, nil)
		if locals = out.Locals; v != i || !slices.Equal(locals, []int{0, i}) {
			t.Fatal(i, v, out)
		}
	}
}

// P10.1, P10.2: all of some operations, whatever their answers and locals lead them to, with each number of answers.
func TestAgainstLog(t *testing.T) {
	var d dice = 3
	for seed := range 300 {
		for _, locals := range [][]int{nil, d.list(6, 3), slices.Repeat([]int{0}, 9)} {
			hold(t, wander(seed, seed%40), locals, d.list(20, 5))
		}
	}
	for _, l := range [][]int{{0, 5, 3, 0, 0, 0}, {0, 5, 3, 0, 0, 2, 2, 1, 0, 4}, {9, 0, 0, 9, 9, 1, 0}} {
		hold(t, wait, []int{0, 40}, l)
	}
}

// P10.3: with more answers an operation does the same, and goes on.
func TestMoreAnswers(t *testing.T) {
	var d dice = 5
	for seed := range 300 {
		do, locals, all := wander(seed, 60), d.list(5, 4), d.list(60, 5)
		var before api.Out
		for many := range len(all) + 1 {
			_, out := Play(func(m *Mem) int { return do(m) }, locals, all[:many])
			if before.Done && !alike(out, before) {
				t.Fatal(seed, many, out, before)
			}
			if n := len(before.Accesses); len(out.Accesses) < n || !slices.Equal(out.Accesses[:n], before.Accesses) {
				t.Fatal(seed, many, out, before)
			}
			if n := len(before.Notes); len(out.Notes) < n || !slices.Equal(out.Notes[:n], before.Notes) {
				t.Fatal(seed, many, out, before)
			}
			if !out.Done && len(out.Accesses) != many+1 {
				t.Fatal(seed, many, out)
			}
			before = out
		}
	}
}

// P10.4: one access more than there are answers, at most, and it ends, if an operation asks without end.
func TestWithoutEnd(t *testing.T) {
	for _, many := range []int{0, 1, 2, 3, 100, 5000, 1 << 20} {
		_, out := Play(func(m *Mem) int {
			for {
				m.Set(0, m.Get(0)+1)
				m.Read(m.Get(0))
			}
		}, nil, make([]int, many))
		if out.Done || len(out.Accesses) != many+1 || out.Accesses[many].Cell != many+1 || !slices.Equal(out.Locals, []int{many + 1}) {
			t.Fatal(many, len(out.Accesses), out.Locals)
		}
		_, out = Play(func(m *Mem) int {
			for {
				m.Write(5, 1)
			}
		}, nil, make([]int, many))
		if out.Done || len(out.Accesses) != many+1 {
			t.Fatal(many, len(out.Accesses))
		}
	}
}

// leave does all that an operation may do.
func leave(m *Mem) {
	m.Note(6)
	m.Set(0, 5)
	m.Set(9, 5)
	m.Read(1)
	m.Write(2, 2)
}

// P10.1: nothing of an operation is done behind its stop: neither what is put off, nor what it does as it recovers by itself.
func TestNothingBehindStop(t *testing.T) {
	alone := func(f func()) {
		defer func() { recover() }()
		f()
	}
	all := map[string]func(m *Mem) int{
		"behind it": func(m *Mem) int { x := m.Read(3); leave(m); return x + 1 },
		"put off":   func(m *Mem) int { defer leave(m); return 1 + m.Read(3) },
		"put off one by one": func(m *Mem) int {
			defer m.Write(2, 2)
			defer m.Read(1)
			defer m.Set(0, 5)
			defer m.Set(9, 5)
			defer m.Note(6)
			return 1 + m.Read(3)
		},
		"recovered": func(m *Mem) (x int) {
			defer func() {
				recover()
				x = 7
				m.Note(6)
				m.Set(0, 5)
			}()
			return 1 + m.Read(3)
		},
		"recovered, and goes on": func(m *Mem) int {
			alone(func() { m.Read(3) })
			m.Note(6)
			m.Set(0, 5)
			alone(func() { m.Write(3, 5) })
			alone(func() { leave(m) })
			return 7
		},
		"recovered, and waits on": func(m *Mem) int {
			alone(func() { m.Read(3) })
			for m.Read(1) != 5 {
			}
			return 7
		},
		"recovered, and stops by it": func(m *Mem) int {
			defer func() { panic(recover()) }()
			return 1 + m.Read(3)
		},
	}
	want := api.Out{Accesses: []api.Access{{Kind: api.AcRead, Cell: 8}, {Kind: api.AcRead, Cell: 3}}, Notes: []api.Note{{Kind: 4, At: 1}}, Locals: []int{0, 0, 6}}
	for name, do := range all {
		v, out := Play(func(m *Mem) int {
			m.Set(2, m.Read(8))
			m.Note(4)
			return do(m)
		}, []int{0, 0, 3}, []int{6})
		if v != 0 || !alike(out, want) {
			t.Fatal(name, v, out)
		}
	}
}

// calm is what panicked is, if there was no panic.
const calm = "no panic"

// panicked is what a call panics with.
func panicked(f func()) (x any) {
	defer func() {
		if r := recover(); r != nil {
			x = r
		}
	}()
	f()
	return calm
}

// P10.1: if an operation panics by itself, so does Play, with the same; one that stops ahead of that does not.
func TestPanics(t *testing.T) {
	wrong := errors.New("wrong")
	for _, x := range []any{wrong, "wrong", 4, api.ErrArg, &wrong, stop{}, stop{mem: &Mem{}}, (*Mem)(nil)} {
		do := func(m *Mem) string {
			m.Note(1)
			m.Write(2, m.Read(1))
			m.Set(1, 1)
			panic(x)
		}
		for many := range 4 {
			got := panicked(func() {
				if v, out := Play(do, nil, make([]int, many)); v != "" || out.Done || len(out.Accesses) != many+1 {
					t.Fatal(many, v, out)
				}
			})
			want := x
			if many < 2 {
				want = calm
			}
			if got != want {
				t.Fatal(many, got, want)
			}
		}
	}
	if x := panicked(func() { Play(func(m *Mem) int { panic(nil) }, nil, nil) }); x == calm {
		t.Fatal(x)
	}
	var none []int
	if x, is := panicked(func() { Play(func(m *Mem) int { return none[m.Read(1)] }, nil, []int{2}) }).(runtime.Error); !is {
		t.Fatal(x)
	}
	if x := panicked(func() { Play(func(m *Mem) int { panic(m) }, nil, nil) }); x == calm {
		t.Fatal(x)
	}
}

// P10.1: one that panics by itself while it is left is no stop.
func TestPanicsAsItIsLeft(t *testing.T) {
	do := func(m *Mem) int {
		defer func() { panic("left") }()
		return m.Read(1)
	}
	for many := range 2 {
		if x := panicked(func() { Play(do, nil, make([]int, many)) }); x != "left" {
			t.Fatal(many, x)
		}
	}
}

// P10.1: a stop of one operation, kept, is none of another one.
func TestStopKept(t *testing.T) {
	var kept any
	Play(func(m *Mem) int {
		defer func() { kept = recover() }()
		return m.Read(1)
	}, nil, nil)
	if x := panicked(func() { Play(func(m *Mem) int { panic(kept) }, nil, nil) }); kept == nil || x != kept {
		t.Fatal(kept, x)
	}
}

// P10.1: an operation that is played within another one stops by itself, and has its own locals and notes.
func TestWithin(t *testing.T) {
	inner := func(m *Mem) int { m.Note(2); m.Set(0, 8); return m.Read(6) + m.Read(7) }
	for many := range 4 {
		var within api.Out
		v, out := Play(func(m *Mem) int {
			m.Set(0, 3)
			x, o := Play(inner, []int{0, 1}, []int{5, 5, 5}[:many])
			within = o
			m.Note(x)
			return m.Read(4) + m.Get(0)
		}, nil, []int{20})
		if v != 23 || !out.Done || len(out.Accesses) != 1 || out.Accesses[0].Cell != 4 || !slices.Equal(out.Locals, []int{3}) {
			t.Fatal(many, v, out)
		}
		told := 0
		if many > 1 {
			told = 10
		}
		if !slices.Equal(out.Notes, []api.Note{{Kind: told}}) || within.Done != (many > 1) || len(within.Accesses) != min(many+1, 2) || !slices.Equal(within.Locals, []int{8, 1}) || len(within.Notes) != 1 {
			t.Fatal(many, out, within)
		}
	}
}

// P10.1: an operation within another one that asks that one's Mem stops that one.
func TestWithinAsksOutside(t *testing.T) {
	goesOn := false
	for _, do := range []func(outside, m *Mem) int{
		func(outside, m *Mem) int { return outside.Read(5) + m.Read(6) },
		func(outside, m *Mem) int { m.Note(1); return m.Read(6) + outside.Read(5) },
		func(outside, m *Mem) int { defer outside.Read(5); return m.Read(6) + m.Read(7) },
	} {
		play := func(outside *Mem) int {
			x, _ := Play(func(m *Mem) int { return do(outside, m) }, nil, []int{2})
			goesOn = true
			outside.Note(3)
			return x + 1
		}
		if v, out := Play(play, nil, nil); v != 0 || goesOn || !alike(out, api.Out{Accesses: []api.Access{{Kind: api.AcRead, Cell: 5}}}) {
			t.Fatal(v, out, goesOn)
		}
		if v, out := Play(play, nil, []int{4}); v == 0 || !goesOn || !out.Done || len(out.Accesses) != 1 || len(out.Notes) != 1 {
			t.Fatal(v, out, goesOn)
		}
		goesOn = false
	}
}

// quiet asks a Mem that is nobody's all that there is: it tells 0, and nothing comes of it.
func quiet(t *testing.T, m *Mem) {
	t.Helper()
	for _, x := range append(nowhere(), values()...) {
		m.Write(x, x)
		m.Set(x, x)
		m.Note(x)
		if m.Read(x) != 0 || m.Get(x) != 0 {
			t.Fatal(x, m.Read(x), m.Get(x))
		}
	}
}

// P10.2: a nil Mem.
func TestNilMem(t *testing.T) {
	quiet(t, nil)
	v, out := Play(func(m *Mem) int { quiet(t, nil); return m.Read(1) }, []int{1}, nil)
	if v != 0 || !alike(out, api.Out{Accesses: []api.Access{{Kind: api.AcRead, Cell: 1}}, Locals: []int{1}}) {
		t.Fatal(v, out)
	}
}

// R1, R5: a Mem that is kept, or that nobody played, does nothing any more, and changes nothing that was told.
func TestKeptMem(t *testing.T) {
	quiet(t, &Mem{})
	for many := range 3 {
		var kept *Mem
		do := func(m *Mem) int {
			kept = m
			m.Set(5, 9)
			m.Set(3, 0)
			m.Note(2)
			return copyCell(m)
		}
		_, out := Play(do, []int{1, 2, 0, 3}, []int{6, 6}[:many])
		want := api.Out{Done: out.Done, Accesses: slices.Clone(out.Accesses), Notes: slices.Clone(out.Notes), Locals: []int{1, 2, 0, 0, 0, 9}}
		quiet(t, kept)
		if !alike(out, want) {
			t.Fatal(many, out, want)
		}
	}
	var kept *Mem
	panicked(func() { Play(func(m *Mem) int { kept = m; m.Set(1, 4); panic("wrong") }, []int{7}, []int{5}) })
	quiet(t, kept)
}

// P10.2: a list without noughts at its end, as new memory, however long it is.
func TestShort(t *testing.T) {
	for i, c := range []struct{ l, want []int }{
		{nil, nil}, {[]int{}, nil}, {[]int{0}, nil}, {[]int{0, 0, 0}, nil}, {[]int{1}, []int{1}}, {[]int{0, 1}, []int{0, 1}}, {[]int{1, 0}, []int{1}},
		{[]int{0, 0, 3, 0, 0}, []int{0, 0, 3}}, {[]int{-1, 0}, []int{-1}}, {[]int{5, 0, -7}, []int{5, 0, -7}}, {[]int{math.MinInt, math.MaxInt, 0}, []int{math.MinInt, math.MaxInt}},
	} {
		before := slices.Clone(c.l)
		got := Short(c.l)
		if !slices.Equal(got, c.want) || !slices.Equal(c.l, before) {
			t.Fatal(i, got, c.l)
		}
		for j := range c.l {
			c.l[j] = 77
		}
		if !slices.Equal(got, c.want) {
			t.Fatal(i, got)
		}
	}
	long := slices.Repeat([]int{0, 2}, most)
	if l := Short(append(slices.Clone(long), 0, 0)); !slices.Equal(l, long) {
		t.Fatal(len(l))
	}
	room := []int{1, 0, 8, 9}
	_ = append(Short(room[:2]), 5, 5)
	if !slices.Equal(room, []int{1, 0, 8, 9}) || !slices.Equal(Short(room[:2]), []int{1}) {
		t.Fatal(room)
	}
}

// P10.1: of locals that are handed in, those that there are not play no part.
func TestTooManyLocals(t *testing.T) {
	for _, many := range []int{most - 1, most, most + 1, 2 * most} {
		v, out := Play(func(m *Mem) int { return m.Get(most-2) + m.Get(most-1) + m.Get(most) }, slices.Repeat([]int{3}, many), nil)
		if want := min(many, most); len(out.Locals) != want || v != 3*(want-most+2) {
			t.Fatal(many, len(out.Locals), v)
		}
	}
	ends := make([]int, most+1)
	ends[1], ends[most] = 2, 5
	if _, out := Play[int](nil, ends, nil); !slices.Equal(out.Locals, []int{0, 2}) {
		t.Fatal(len(out.Locals))
	}
}

// R5: what is handed in is not written, nor what lies behind it, and may be written later.
func TestHandedIn(t *testing.T) {
	locals, told := []int{1, 2, 3, 0, 7, 7}, []int{4, 5, 7, 7}
	do := func(m *Mem) int { m.Set(0, 9); m.Set(3, 9); m.Set(5, 9); m.Set(6, 0); return m.Read(1) + m.Read(2) }
	v, out := Play(do, locals[:4], told[:2])
	if v != 9 || !slices.Equal(locals, []int{1, 2, 3, 0, 7, 7}) || !slices.Equal(told, []int{4, 5, 7, 7}) {
		t.Fatal(v, locals, told)
	}
	if _, out := Play(do, locals[:4], told[:1]); out.Done || len(out.Accesses) != 2 {
		t.Fatal(out)
	}
	for _, l := range [][]int{locals, told} {
		for i := range l {
			l[i] = 88
		}
	}
	if want := []int{9, 2, 3, 9, 0, 9}; !slices.Equal(out.Locals, want) {
		t.Fatal(out.Locals)
	}
	_, out = Play[int](nil, locals[:3], nil)
	locals[0] = 1
	if !slices.Equal(out.Locals, []int{88, 88, 88}) {
		t.Fatal(out.Locals)
	}
}

// R4, R5: what comes of one play stays as it was told, whatever is played later.
func TestPlaysApart(t *testing.T) {
	var d dice = 8
	var outs, kept []api.Out
	for seed := range 100 {
		do := wander(seed, 50)
		_, out := Play(func(m *Mem) int { return do(m) }, []int{1, 0, 2}, d.list(15, 6))
		outs = append(outs, out)
		kept = append(kept, api.Out{Done: out.Done, Accesses: slices.Clone(out.Accesses), Notes: slices.Clone(out.Notes), Locals: slices.Clone(out.Locals)})
	}
	for i := range outs {
		if !alike(outs[i], kept[i]) {
			t.Fatal(i, outs[i], kept[i])
		}
	}
}
