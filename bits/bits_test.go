package bits_test

import (
	"iter"
	"math"
	"slices"
	"testing"

	"quern/api"
	"quern/bits"
)

// size is how many bits a block has, by the document's own number.
const size = 2048

// outside are numbers that are no bit's: on both sides, next to the bits and far away, and such as have a bit's lowest digits.
var outside = []int{-1, -2, -7, -8, -9, -255, -256, -2047, -2048, -2049, math.MinInt32, math.MinInt, math.MinInt + 1, math.MinInt + 8,
	size, size + 1, size + 7, size + 8, 2*size - 1, 2 * size, 9999, 1 << 16, 1 << 32, math.MaxInt32, 1 << 62, math.MaxInt - 7, math.MaxInt - 1, math.MaxInt}

// around are numbers up to which, or from which, bits are told: edges of bytes, the block's, and those that are no bit's.
var around = append([]int{0, 1, 2, 6, 7, 8, 9, 10, 15, 16, 17, 20, 63, 64, 65, 255, 256, 257, 1000, 1023, 1024, 1025, 2039, 2040, 2041, 2046, 2047}, outside...)

// model has the bits of a block one by one.
type model [size]bool

func modelOf(b api.Block) *model {
	m := new(model)
	for i := range m {
		m[i] = b[i/8]/[]byte{1, 2, 4, 8, 16, 32, 64, 128}[i%8]%2 == 1
	}
	return m
}

func (m *model) block() api.Block {
	var b api.Block
	for i, is := range m {
		if is {
			b[i/8] += []byte{1, 2, 4, 8, 16, 32, 64, 128}[i%8]
		}
	}
	return b
}

func (m *model) first(from, to int) int {
	for i, is := range m {
		if !is && i >= from && i < to {
			return i
		}
	}
	return -1
}

// all are the set bits ahead of n.
func (m *model) all(n int) []int {
	var l []int
	for i, is := range m {
		if is && i < n {
			l = append(l, i)
		}
	}
	return l
}

func with(set ...int) api.Block {
	m := new(model)
	for _, i := range set {
		m[i] = true
	}
	return m.block()
}

// without is a block of which all bits but these are set.
func without(clear ...int) api.Block {
	m := new(model)
	for i := range m {
		m[i] = !slices.Contains(clear, i)
	}
	return m.block()
}

// samples: blocks of all clear, all set, one set and one clear bit, whole bytes, bits by turns, and mixed ones.
func samples() []api.Block {
	l := []api.Block{{}, without(), with(0, 9, 2047), without(0, 9, 2047)}
	for _, i := range []int{0, 1, 7, 8, 9, 1023, 1024, 2039, 2040, 2046, 2047} {
		l = append(l, with(i), without(i))
	}
	var turns, bytes, rising, mixed api.Block
	v := uint32(1)
	for k := range turns {
		turns[k] = 0x55
		bytes[k] = byte(255 * (k % 2))
		rising[k] = byte(k)
		v = v*1664525 + 1013904223
		mixed[k] = byte(v >> 24)
	}
	return append(l, turns, bytes, rising, mixed)
}

// same holds all that is told of a block against its model.
func same(t *testing.T, b api.Block, m *model) {
	t.Helper()
	if b != m.block() {
		t.Fatalf("the block is %v, not %v", b, m.block())
	}
	for i, is := range m {
		if bits.Has(b, i) != is {
			t.Fatalf("Has %d: not %v", i, is)
		}
	}
	if l := slices.Collect(bits.All(b)); !slices.Equal(l, m.all(size)) {
		t.Fatalf("All: %v, not %v", l, m.all(size))
	}
	for _, n := range around {
		if got, want := bits.Count(b, n), len(m.all(n)); got != want {
			t.Fatalf("Count %d: %d, not %d", n, got, want)
		}
		if got, want := bits.First(b, n, size), m.first(n, size); got != want {
			t.Fatalf("First from %d: %d, not %d", n, got, want)
		}
		if got, want := bits.First(b, 0, n), m.first(0, n); got != want {
			t.Fatalf("First ahead of %d: %d, not %d", n, got, want)
		}
	}
}

// Examples of the chapter.
func TestExamples(t *testing.T) {
	var b api.Block
	b[0], b[1], b[255] = 1, 2, 128
	for _, c := range []struct {
		i    int
		want bool
	}{{0, true}, {1, false}, {9, true}, {2047, true}, {2048, false}, {-1, false}} {
		if bits.Has(b, c.i) != c.want {
			t.Errorf("Has %d: not %v", c.i, c.want)
		}
	}
	for _, c := range [][3]int{{0, 2048, 1}, {9, 10, -1}, {-5, 1, -1}, {2047, 9999, -1}, {8, 20, 8}} {
		if i := bits.First(b, c[0], c[1]); i != c[2] {
			t.Errorf("First %d %d: %d, not %d", c[0], c[1], i, c[2])
		}
	}
	for _, c := range [][2]int{{0, 0}, {1, 1}, {10, 2}, {2047, 2}, {9999, 3}, {-1, 0}} {
		if n := bits.Count(b, c[0]); n != c[1] {
			t.Errorf("Count %d: %d, not %d", c[0], n, c[1])
		}
	}
	if !bits.Set(&b, 1) || bits.Set(&b, 9) || b != with(0, 1, 9, 2047) {
		t.Errorf("Set 1, Set 9: %v", b)
	}
	if !bits.Clear(&b, 9) || bits.Clear(&b, 9) || b != with(0, 1, 2047) {
		t.Errorf("Clear 9, twice: %v", b)
	}
	if bits.Set(nil, 1) {
		t.Error("Set of no block: yes")
	}
}

// P4.1 to P4.5: whatever the block.
func TestSamples(t *testing.T) {
	for _, b := range samples() {
		same(t, b, modelOf(b))
	}
}

// P4.1, Words: each bit alone stands in its own byte, from the lowest one on.
func TestHasEachAlone(t *testing.T) {
	for i := range size {
		var b api.Block
		b[i/8] = []byte{1, 2, 4, 8, 16, 32, 64, 128}[i%8]
		for k := range size {
			if bits.Has(b, k) != (k == i) {
				t.Fatalf("Has %d, where %d alone is set: not %v", k, i, k == i)
			}
		}
	}
}

// P4.1, P0.1, P0.5: numbers that are no bit's.
func TestHasOutside(t *testing.T) {
	for _, b := range samples() {
		for _, i := range outside {
			if bits.Has(b, i) {
				t.Errorf("Has %d: yes", i)
			}
		}
	}
}

// P4.2, P0.3: each bit of each block: what is set, or clear, already is told, and stays; no other bit is changed.
func TestSetClearEach(t *testing.T) {
	for _, b := range samples() {
		for i := range size {
			set, clear := modelOf(b), modelOf(b)
			was := set[i]
			set[i], clear[i] = true, false
			x := b
			if bits.Set(&x, i) == was || x != set.block() {
				t.Fatalf("Set %d, set %v: %v", i, was, x)
			}
			if bits.Set(&x, i) || x != set.block() {
				t.Fatalf("Set %d again: %v", i, x)
			}
			x = b
			if bits.Clear(&x, i) != was || x != clear.block() {
				t.Fatalf("Clear %d, set %v: %v", i, was, x)
			}
			if bits.Clear(&x, i) || x != clear.block() {
				t.Fatalf("Clear %d again: %v", i, x)
			}
		}
	}
}

// P4.2, P0.1, P0.3, P0.5: numbers that are no bit's, and no block, whatever the number: nothing is changed.
func TestSetClearRefused(t *testing.T) {
	for _, b := range samples() {
		x := b
		for _, i := range outside {
			if bits.Set(&x, i) || x != b {
				t.Errorf("Set %d: yes, or %v", i, x)
			}
			if bits.Clear(&x, i) || x != b {
				t.Errorf("Clear %d: yes, or %v", i, x)
			}
		}
	}
	for _, i := range around {
		if bits.Set(nil, i) || bits.Clear(nil, i) {
			t.Errorf("no block, bit %d: yes", i)
		}
	}
}

// P4.2: blocks that lie beside the one that is changed stay as they are.
func TestSetClearBeside(t *testing.T) {
	for _, b := range []api.Block{{}, without()} {
		three := [3]api.Block{b, b, b}
		for i := range size {
			bits.Set(&three[1], i)
			bits.Clear(&three[1], i)
		}
		for _, i := range outside {
			bits.Set(&three[1], i)
			bits.Clear(&three[1], i)
		}
		if three != [3]api.Block{b, {}, b} {
			t.Errorf("%v", three)
		}
	}
}

// P4.3, P0.1, P0.5: each two numbers, so ranges that are empty, turned about, of one bit, or reach beyond the block.
func TestFirst(t *testing.T) {
	for _, b := range samples() {
		m := modelOf(b)
		for _, from := range around {
			for _, to := range around {
				if got, want := bits.First(b, from, to), m.first(from, to); got != want {
					t.Fatalf("First %d %d: %d, not %d", from, to, got, want)
				}
			}
		}
	}
}

// P4.3: one clear bit, wherever it is, is found by all ranges that just hold it, and by none that just misses it.
func TestFirstAlone(t *testing.T) {
	for i := range size {
		b := without(i)
		for _, c := range [][3]int{{i, i + 1, i}, {0, size, i}, {i, math.MaxInt, i}, {math.MinInt, i + 1, i}, {i, i, -1},
			{i + 1, i, -1}, {i + 1, size, -1}, {0, i, -1}, {i + 1, math.MaxInt, -1}, {math.MinInt, i, -1}} {
			if got := bits.First(b, c[0], c[1]); got != c[2] {
				t.Fatalf("First %d %d, where %d alone is clear: %d", c[0], c[1], i, got)
			}
		}
	}
}

// P4.4: each number, of blocks of all clear bits, all set ones, and mixed ones.
func TestCount(t *testing.T) {
	for n := range size + 2 {
		if got := bits.Count(api.Block{}, n); got != 0 {
			t.Fatalf("Count %d of clear bits: %d", n, got)
		}
		if got := bits.Count(without(), n); got != min(n, size) {
			t.Fatalf("Count %d of set bits: %d", n, got)
		}
	}
	for _, b := range samples() {
		m, want := modelOf(b), 0
		for n, is := range m {
			if got := bits.Count(b, n); got != want {
				t.Fatalf("Count %d: %d, not %d", n, got, want)
			}
			if is {
				want++
			}
		}
	}
}

// up answers what a going over tells that is left behind most bits; it fails where it is asked to go on.
func up(t *testing.T, seq iter.Seq[int], most int) []int {
	t.Helper()
	var l []int
	seq(func(i int) bool {
		if len(l) == most {
			t.Fatalf("goes on to %d", i)
		}
		l = append(l, i)
		return len(l) < most
	})
	return l
}

// P4.5: a going over that is left early is left at once; the next one begins at the first bit.
func TestAllLeft(t *testing.T) {
	for _, b := range samples() {
		seq, want := bits.All(b), modelOf(b).all(size)
		for _, most := range []int{1, 2, 3, 8, 9, 1000, 2047, 2048} {
			if l := up(t, seq, most); !slices.Equal(l, want[:min(most, len(want))]) {
				t.Fatalf("left behind %d: %v", most, l)
			}
		}
		for range 2 {
			if l := slices.Collect(seq); !slices.Equal(l, want) {
				t.Fatalf("gone over again: %v", l)
			}
		}
	}
}

// P4.5: two goings over of one sequence know nothing of each other.
func TestAllWithin(t *testing.T) {
	want := []int{0, 9, 2047}
	seq := bits.All(with(want...))
	var l []int
	for i := range seq {
		if in := slices.Collect(seq); !slices.Equal(in, want) {
			t.Errorf("inner one at %d: %v", i, in)
		}
		l = append(l, i)
	}
	if !slices.Equal(l, want) {
		t.Errorf("outer one: %v", l)
	}
}

// P4.5, P0.4: what is told is the block that was handed in, whatever becomes of it later, or while it is told.
func TestAllKeepsItsOwn(t *testing.T) {
	b := with(0, 9, 2047)
	seq := bits.All(b)
	for range 2 {
		var l []int
		for i := range seq {
			bits.Clear(&b, 2047)
			bits.Set(&b, i+1)
			l = append(l, i)
		}
		if !slices.Equal(l, []int{0, 9, 2047}) {
			t.Errorf("%v", l)
		}
	}
}

// orders are three ways through numbers: as they are, the other way about, and mixed.
func orders(l []int) [][]int {
	falling, mixed := slices.Clone(l), slices.Clone(l)
	slices.Reverse(falling)
	for k := range mixed {
		j := (k*979 + 7) % len(mixed)
		mixed[k], mixed[j] = mixed[j], mixed[k]
	}
	return [][]int{l, falling, mixed}
}

// P4.6: bits that are taken, as long as there are any, are the clear ones, rising, each once; given back in whatever order, the block is as it was.
func TestTakenAndGiven(t *testing.T) {
	for _, was := range samples() {
		b, m := was, modelOf(was)
		var taken []int
		for i := bits.First(b, 0, size); i != -1; i = bits.First(b, 0, size) {
			if i != m.first(0, size) || !bits.Set(&b, i) {
				t.Fatalf("First tells %d", i)
			}
			m[i] = true
			taken = append(taken, i)
			if len(taken)%100 == 1 {
				same(t, b, m)
			}
		}
		if b != without() || len(taken)+bits.Count(was, size) != size || !slices.IsSorted(taken) {
			t.Fatalf("%d taken, not each clear one once", len(taken))
		}
		full := b
		for _, order := range orders(taken) {
			b, m = full, modelOf(full)
			for k, i := range order {
				if !bits.Clear(&b, i) {
					t.Fatalf("%d can't be given back", i)
				}
				m[i] = false
				if k%100 == 1 {
					same(t, b, m)
				}
			}
			if b != was {
				t.Fatalf("given back: %v, not %v", b, was)
			}
		}
	}
}

// P4.6: taken and given by turns, Count tells at each moment how many All tells ahead of n.
func TestCountIsAll(t *testing.T) {
	var b api.Block
	m := new(model)
	v := uint32(7)
	for k := range 20000 {
		v = v*1664525 + 1013904223
		i := int(v >> 16 % size)
		if v>>31 == 0 {
			if bits.Set(&b, i) == m[i] {
				t.Fatalf("Set %d, set %v", i, m[i])
			}
			m[i] = true
		} else {
			if bits.Clear(&b, i) != m[i] {
				t.Fatalf("Clear %d, set %v", i, m[i])
			}
			m[i] = false
		}
		ahead := 0
		n := k % (size + 1)
		for i := range bits.All(b) {
			if i < n {
				ahead++
			}
		}
		if got := bits.Count(b, n); got != ahead || ahead != len(m.all(n)) {
			t.Fatalf("Count %d: %d, All tells %d, the model %d", n, got, ahead, len(m.all(n)))
		}
	}
	same(t, b, m)
}
