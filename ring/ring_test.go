package ring_test

import (
	"math"
	"slices"
	"testing"

	"quern/api"
	"quern/ring"
)

// below and above are numbers that no count of places comes near: the least and the greatest, and such as have a small count in their lowest bits.
var (
	below = []int{math.MinInt, math.MinInt + 1, math.MinInt + 5, -1<<32 - 1, -1 << 32, -1<<32 + 1, -1<<32 + 40, math.MinInt32, -1 << 16, -1<<16 + 3, -257, -256, -255, -40, -39, -2, -1}
	above = []int{257, 511, 512, 1<<16 + 1, math.MaxInt32, 1 << 32, 1<<32 + 1, 1<<32 + 40, math.MaxInt - 256, math.MaxInt - 1, math.MaxInt}
)

// journals are those whose rings are gone through: the least and the greatest, and some between.
var journals = []int{40, 41, 64, 128, 129, 255, 256}

// model is a ring by the chapter's own words: all its places, and those in use, in order.
type model struct {
	places []int
	used   []int
	head   int
}

func newModel(journal int) *model {
	m := &model{head: 1}
	for p := 1; p <= journal-1; p++ {
		m.places = append(m.places, p)
	}
	return m
}

func (m *model) free() int { return len(m.places) - len(m.used) }

func (m *model) tail() int {
	if len(m.used) == 0 {
		return m.head
	}
	return m.used[0]
}

func (m *model) take(n int) ([]int, api.Errno) {
	if n < 1 {
		return nil, api.ErrArg
	}
	if n > m.free() {
		return nil, api.ErrRing
	}
	var l []int
	for len(l) < n {
		l = append(l, m.head)
		if m.head == m.places[len(m.places)-1] {
			m.head = m.places[0]
		} else {
			m.head++
		}
	}
	m.used = append(m.used, l...)
	return l, api.OK
}

func (m *model) give(n int) api.Errno {
	if n < 0 {
		return api.ErrArg
	}
	if n > len(m.used) {
		return api.ErrRing
	}
	m.used = m.used[n:]
	return api.OK
}

// pair is a ring and its model: what is done is done with both, and each answer held against the model's.
type pair struct {
	t *testing.T
	r *ring.Ring
	m *model
}

// created answers the ring of such a journal, in which nothing is in use.
func created(t *testing.T, journal int) *pair {
	t.Helper()
	r, e := ring.New(journal)
	if r == nil || e != api.OK {
		t.Fatalf("New(%d): %v %v", journal, r, e)
	}
	return &pair{t, r, newModel(journal)}
}

// brought answers one with its tail at that place, and so many in use.
func brought(t *testing.T, journal, tail, used int) *pair {
	t.Helper()
	p := created(t, journal)
	if tail > 1 {
		p.take(tail - 1)
		p.give(tail - 1)
	}
	if used > 0 {
		p.take(used)
	}
	return p
}

func (p *pair) take(n int) []int {
	p.t.Helper()
	l, e := p.r.Take(n)
	if want, we := p.m.take(n); e != we || !slices.Equal(l, want) {
		p.t.Fatalf("Take(%d) of %d places: %v %v, not %v %v", n, len(p.m.places), l, e, want, we)
	}
	return l
}

func (p *pair) give(n int) {
	p.t.Helper()
	if e, we := p.r.Give(n), p.m.give(n); e != we {
		p.t.Fatalf("Give(%d) of %d places: %v, not %v", n, len(p.m.places), e, we)
	}
}

// same holds all that is told against the model.
func (p *pair) same() {
	p.t.Helper()
	r, m := p.r, p.m
	if r.Free() != m.free() || r.Used() != len(m.used) || r.Head() != m.head || r.Tail() != m.tail() {
		p.t.Fatalf("of %d places %d are free, %d used, the head is %d, the tail %d; not %d, %d, %d, %d",
			len(m.places), r.Free(), r.Used(), r.Head(), r.Tail(), m.free(), len(m.used), m.head, m.tail())
	}
}

// through holds what is told, and takes and gives all: the last thing that is done with a ring.
func (p *pair) through() {
	p.t.Helper()
	p.same()
	if p.m.free() > 0 {
		p.take(p.m.free())
		p.same()
	}
	p.take(1)
	for len(p.m.used) > 0 {
		p.give((len(p.m.used) + 1) / 2)
		p.same()
	}
	p.take(len(p.m.places))
	p.same()
	p.give(len(p.m.places))
	p.give(1)
	p.same()
}

// fills are the numbers of places in use at which something is otherwise: none and all, next to these, and between.
func fills(journal int) []int {
	n := journal - 1
	return []int{0, 1, 2, n / 2, n - 2, n - 1, n}
}

// edges are the counts at which Take and Give answer otherwise, with so many places free and used, and others.
func edges(free, used int) []int {
	l := []int{0, 1, 2, 3, 38, 39, 40, 254, 255, 256, free - 2, free - 1, free, free + 1, free + 2, used - 2, used - 1, used, used + 1, used + 2}
	return append(append(l, below...), above...)
}

// Examples of the chapter.
func TestExamples(t *testing.T) {
	r, e := ring.New(40)
	if e != api.OK {
		t.Fatalf("New: %v", e)
	}
	var first []int
	for p := 1; p <= 38; p++ {
		first = append(first, p)
	}
	if l, e := r.Take(38); e != api.OK || !slices.Equal(l, first) {
		t.Errorf("Take(38): %v %v", l, e)
	}
	if r.Head() != 39 || r.Free() != 1 {
		t.Errorf("Head %d, Free %d", r.Head(), r.Free())
	}
	if l, e := r.Take(2); e != api.ErrRing || len(l) != 0 || r.Tail() != 1 {
		t.Errorf("Take(2): %v %v, Tail %d", l, e, r.Tail())
	}
	if e := r.Give(30); e != api.OK {
		t.Errorf("Give(30): %v", e)
	}
	if l, e := r.Take(3); e != api.OK || !slices.Equal(l, []int{39, 1, 2}) {
		t.Errorf("Take(3): %v %v", l, e)
	}
	if r.Tail() != 31 || r.Used() != 11 {
		t.Errorf("Tail %d, Used %d", r.Tail(), r.Used())
	}
	if e := r.Give(12); e != api.ErrRing {
		t.Errorf("Give(12): %v", e)
	}
	if l, e := r.Take(0); e != api.ErrArg || len(l) != 0 {
		t.Errorf("Take(0): %v %v", l, e)
	}
	if x, e := ring.New(39); e != api.ErrArg || x != nil {
		t.Errorf("New(39): %v %v", x, e)
	}
}

// P12.1, P12.3: a ring of each journal from 40 to 256 blocks, in which nothing is in use; of no other one.
func TestNew(t *testing.T) {
	for journal := -600; journal <= 1200; journal++ {
		if journal >= 40 && journal <= 256 {
			p := created(t, journal)
			if p.r.Free() != journal-1 || p.r.Used() != 0 || p.r.Head() != 1 || p.r.Tail() != 1 {
				t.Errorf("of %d: Free %d, Used %d, Head %d, Tail %d", journal, p.r.Free(), p.r.Used(), p.r.Head(), p.r.Tail())
			}
			p.through()
		} else if r, e := ring.New(journal); r != nil || e != api.ErrArg {
			t.Errorf("New(%d): %v %v", journal, r, e)
		}
	}
	far := append(append([]int{1<<16 + 40, 1<<32 + 256, -1<<16 + 40, math.MinInt + 40, math.MinInt + 256}, below...), above...)
	for _, journal := range far {
		if r, e := ring.New(journal); r != nil || e != api.ErrArg {
			t.Errorf("New(%d): %v %v", journal, r, e)
		}
	}
}

// P0.1, P0.2, P12.2, P12.3: all calls on a nil ring, on one that was refused, and on one that nobody made, with each argument, wrong ones too.
func TestNobodyMade(t *testing.T) {
	refused, _ := ring.New(39)
	for _, r := range []*ring.Ring{nil, refused, {}, new(ring.Ring)} {
		for range 2 {
			for _, n := range edges(0, 39) {
				if l, e := r.Take(n); len(l) != 0 || e != api.ErrNil {
					t.Errorf("Take(%d): %v %v", n, l, e)
				}
				if e := r.Give(n); e != api.ErrNil {
					t.Errorf("Give(%d): %v", n, e)
				}
				if r.Free() != 0 || r.Used() != 0 || r.Head() != 0 || r.Tail() != 0 {
					t.Errorf("Free %d, Used %d, Head %d, Tail %d", r.Free(), r.Used(), r.Head(), r.Tail())
				}
			}
		}
	}
}

// P12.2, P12.3, P0.3: of the least journal each count, at each tail, with each number in use.
func TestEachState(t *testing.T) {
	for tail := 1; tail <= 39; tail++ {
		for used := range 40 {
			for n := -2; n <= 42; n++ {
				taken := brought(t, 40, tail, used)
				taken.take(n)
				taken.through()
				given := brought(t, 40, tail, used)
				given.give(n)
				given.through()
			}
		}
	}
}

// P12.2, P12.3, P0.3: in each journal, at each tail, void ones and full ones and between: the counts at which the answer turns, and numbers far off.
func TestEdges(t *testing.T) {
	for _, journal := range journals {
		for tail := 1; tail < journal; tail++ {
			for _, used := range fills(journal) {
				at := brought(t, journal, tail, used)
				for _, n := range edges(journal-1-used, used) {
					if n < 1 || n > journal-1-used {
						at.take(n)
						at.same()
					}
					if n < 0 || n > used {
						at.give(n)
						at.same()
					}
				}
				at.through()
			}
		}
	}
}

// P12.2, P12.3: what is taken and what is given at each tail of the greatest journal, at the counts at which the answer turns.
func TestTakeAndGive(t *testing.T) {
	for tail := 1; tail <= 255; tail++ {
		for _, used := range fills(256) {
			for _, n := range []int{0, 1, 2, 255 - used, 256 - used, used, used + 1, 255 - used - tail, 256 - used - tail, 257 - used - tail} {
				p := brought(t, 256, tail, used)
				p.take(n)
				p.same()
				p.give(n)
				p.through()
			}
		}
	}
}

// P12.2, P12.3: in each journal rows that end just ahead of the place where the ring goes round, at it, and behind it.
func TestRound(t *testing.T) {
	for journal := 40; journal <= 256; journal++ {
		last := journal - 1
		for ahead := range 4 {
			for n := 1; n <= 5; n++ {
				p := brought(t, journal, 1, last-ahead)
				p.give(last - ahead)
				var want []int
				for i := range n {
					place := last - ahead + 1 + i
					if place > last {
						place -= last
					}
					want = append(want, place)
				}
				if l := p.take(n); !slices.Equal(l, want) {
					t.Fatalf("Take(%d) of %d, from %d on: %v, not %v", n, journal, last-ahead+1, l, want)
				}
				p.same()
				p.through()
			}
		}
	}
}

// P12.3: the head and the tail are at one place in a ring that is void and in one that is full, wherever that is.
func TestVoidAndFull(t *testing.T) {
	for _, journal := range journals {
		for tail := 1; tail < journal; tail++ {
			p := brought(t, journal, tail, 0)
			if p.r.Head() != tail || p.r.Tail() != tail || p.r.Used() != 0 || p.r.Free() != journal-1 {
				t.Fatalf("void: Head %d, Tail %d, Used %d, Free %d", p.r.Head(), p.r.Tail(), p.r.Used(), p.r.Free())
			}
			p.give(0)
			p.give(1)
			p.same()
			p.take(journal - 1)
			if p.r.Head() != tail || p.r.Tail() != tail || p.r.Used() != journal-1 || p.r.Free() != 0 {
				t.Fatalf("full: Head %d, Tail %d, Used %d, Free %d", p.r.Head(), p.r.Tail(), p.r.Used(), p.r.Free())
			}
			p.give(0)
			p.take(1)
			p.same()
			p.give(journal - 1)
			p.same()
		}
	}
}

// P12.2, P0.2: which error comes first is told by the count alone where the ring is full or void: below the least it is ErrArg there, too.
func TestWhichError(t *testing.T) {
	for _, used := range []int{0, 20, 39} {
		p := brought(t, 40, 7, used)
		for _, n := range append([]int{0}, below...) {
			if l, e := p.r.Take(n); len(l) != 0 || e != api.ErrArg {
				t.Errorf("Take(%d) with %d in use: %v %v", n, used, l, e)
			}
			if e := p.r.Give(n); n < 0 && e != api.ErrArg || n == 0 && e != api.OK {
				t.Errorf("Give(%d) with %d in use: %v", n, used, e)
			}
		}
		for _, n := range append([]int{40}, above...) {
			if l, e := p.r.Take(n); len(l) != 0 || e != api.ErrRing {
				t.Errorf("Take(%d) with %d in use: %v %v", n, used, l, e)
			}
			if e := p.r.Give(n); e != api.ErrRing {
				t.Errorf("Give(%d) with %d in use: %v", n, used, e)
			}
		}
		p.through()
	}
}

// P12.2, P12.3: rows of each length, taken one behind the other and given one behind the other, round and round.
func TestRows(t *testing.T) {
	for _, journal := range []int{40, 41, 256} {
		for n := 1; n < journal; n++ {
			p := created(t, journal)
			for range 3 {
				for p.m.free() >= n {
					p.take(n)
					p.same()
				}
				p.take(n)
				p.same()
				for len(p.m.used) >= n {
					p.give(n)
					p.same()
				}
				p.give(n)
				p.same()
			}
			p.through()
		}
	}
}

// P0.4: what is told is the caller's own, the room behind it too; it stays as it was, whatever is taken later.
func TestToldIsNew(t *testing.T) {
	for _, n := range []int{1, 2, 5, 13} {
		p := brought(t, 40, 30, 0)
		one := p.take(n)
		two := p.take(n)
		was := slices.Clone(two[:cap(two)])
		for i := range one[:cap(one)] {
			one[:cap(one)][i] = 77
		}
		if !slices.Equal(two[:cap(two)], was) {
			t.Error("two answers share memory")
		}
		p.same()
		p.take(n)
		p.give(3 * n)
		p.same()
		three := p.take(39)
		for i := range three[:cap(three)] {
			three[:cap(three)][i] = -1
		}
		p.give(39)
		p.take(39)
		if !slices.Equal(two[:cap(two)], was) {
			t.Errorf("what was told has changed: %v, not %v", two, was)
		}
		p.through()
	}
}

// P12.1: rings know nothing of each other.
func TestTwoRings(t *testing.T) {
	one, two := created(t, 40), created(t, 40)
	one.take(25)
	two.same()
	two.take(39)
	one.give(10)
	two.same()
	two.give(39)
	one.same()
	three := created(t, 256)
	three.take(255)
	one.through()
	two.through()
	three.through()
}

// P12.3: asking changes nothing.
func TestAskingChangesNothing(t *testing.T) {
	for _, used := range fills(40) {
		p := brought(t, 40, 33, used)
		for range 3 {
			p.same()
		}
		p.through()
	}
}

// rolls tells one number behind the other, the same ones in each run.
type rolls uint32

func (r *rolls) next(n int) int {
	*r = *r*1664525 + 1013904223
	return int(uint32(*r)>>8) % n
}

// P12.4: with each place told out of the answers alone: none is taken that is out, and they come back in the order in which they went.
func TestApart(t *testing.T) {
	for _, journal := range journals {
		for seed := range 20 {
			r, _ := ring.New(journal)
			roll := rolls(seed)
			out := map[int]bool{}
			var order []int
			for range 400 {
				if roll.next(2) == 0 {
					l, _ := r.Take(roll.next(journal/2) + 1)
					for _, place := range l {
						if out[place] || place < 1 || place > journal-1 {
							t.Fatalf("of %d: %d is taken, with %v out", journal, place, order)
						}
						out[place] = true
						order = append(order, place)
					}
				} else if n := roll.next(journal / 2); r.Give(n) == api.OK {
					for _, place := range order[:n] {
						delete(out, place)
					}
					order = order[n:]
				}
				if r.Used() != len(order) || r.Free() != journal-1-len(order) {
					t.Fatalf("of %d: Used %d, Free %d, with %v out", journal, r.Used(), r.Free(), order)
				}
				if len(order) > 0 && r.Tail() != order[0] {
					t.Fatalf("of %d: Tail %d, with %v out", journal, r.Tail(), order)
				}
				if len(order) < journal-1 && out[r.Head()] {
					t.Fatalf("of %d: Head %d, with %v out", journal, r.Head(), order)
				}
			}
		}
	}
}

// P12.1 to P12.4: long runs of calls, wrong ones too, held against the model behind each.
func TestLongRuns(t *testing.T) {
	for _, journal := range journals {
		for seed := range 30 {
			roll := rolls(5000 + seed)
			most := []int{4, 12, journal / 2, journal + 5}[seed%4]
			p := created(t, journal)
			for range 500 {
				n := roll.next(most) - roll.next(3)
				if roll.next(40) == 0 {
					n = append(below, above...)[roll.next(len(below)+len(above))]
				}
				if roll.next(2) == 0 {
					p.take(n)
				} else {
					p.give(n)
				}
				p.same()
			}
			p.through()
		}
	}
}
