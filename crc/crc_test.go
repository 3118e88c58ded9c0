package crc_test

import (
	"hash/crc32"
	"math"
	"slices"
	"testing"

	"quern/crc"
)

// order is how many shifts bring each number back to itself: the greatest that a number of 32 bits can have.
const order = 1<<32 - 1

var values = []uint32{0, 1, 2, 3, 15, 16, 128, 255, 256, 0xffff, 0x10000, 0x04c11db7, 0x7fffffff, 0x80000000,
	0x80000001, 0xdebb20e3, 0xedb88320, 0xfffffffe, 0xffffffff}

// lengths runs from 0 up to the greatest int, and to both sides of each power of two, where 8 n may be no int.
func lengths() []int {
	l := []int{0, 1, 2, 3, 5, 7, 255, 1000}
	for k := 2; k < 63; k++ {
		l = append(l, 1<<k-1, 1<<k, 1<<k+1)
	}
	return append(l, order, 2*order, math.MaxInt/8, math.MaxInt/8+1, math.MaxInt-1, math.MaxInt)
}

// below are numbers of bytes below 0.
var below = []int{-1, -2, -7, -8, -9, -256, math.MinInt32, math.MinInt/8 - 1, math.MinInt / 8, math.MinInt + 1, math.MinInt}

// shifted is the document's shift, done so many times: what the package's short ways are held against.
func shifted(v uint32, times int) uint32 {
	for range times {
		out := v & 1
		v >>= 1
		if out == 1 {
			v ^= 0xEDB88320
		}
	}
	return v
}

// model takes the sum by the document's own words, bit by bit.
func model(b []byte) uint32 {
	v := uint32(0xffffffff)
	for _, x := range b {
		v = shifted(v^uint32(x), 8)
	}
	return ^v
}

// filled answers n bytes that all differ from their neighbours, with spare room behind them that isn't zero.
func filled(n int) []byte {
	whole := make([]byte, n+8)
	for i := range whole {
		whole[i] = byte(0x5b + 41*i + i*i/7)
	}
	return whole[:n]
}

func spare(b []byte) []byte { return b[:cap(b)] }

// P2.1, examples.
func TestSumExamples(t *testing.T) {
	for _, c := range []struct {
		pieces [][]byte
		want   uint32
	}{
		{nil, 0},
		{[][]byte{[]byte("a")}, 3904355907},
		{[][]byte{[]byte("123456789")}, 3421780262},
		{[][]byte{[]byte("1234"), []byte(""), []byte("56789")}, 3421780262},
	} {
		if got := crc.Sum(c.pieces...); got != c.want {
			t.Errorf("Sum of %q: %d, not %d", c.pieces, got, c.want)
		}
	}
}

// P2.1: each byte alone, each pair of bytes, and each length up to four blocks, by the document's words and by the library's sum.
func TestSumWhole(t *testing.T) {
	for x := range 65536 {
		b := []byte{byte(x), byte(x >> 8)}
		for _, p := range [][]byte{b, b[:1]} {
			if got := crc.Sum(p); got != model(p) {
				t.Fatalf("Sum of %v: %d, not %d", p, got, model(p))
			}
		}
	}
	for n := range 1025 {
		for _, b := range [][]byte{filled(n), make([]byte, n), slices.Repeat([]byte{255}, n)} {
			if got := crc.Sum(b); got != model(b) || got != crc32.ChecksumIEEE(b) {
				t.Fatalf("Sum of %d bytes: %d, not %d", n, got, model(b))
			}
		}
	}
}

// P2.1: it doesn't matter where the pieces are cut, nor how many of nothing stand between.
func TestSumPieces(t *testing.T) {
	b := filled(40)
	want := model(b)
	for i := range len(b) + 1 {
		if got := crc.Sum(b[:i], b[i:]); got != want {
			t.Errorf("cut at %d: %d, not %d", i, got, want)
		}
		for j := i; j <= len(b); j++ {
			if got := crc.Sum(nil, b[:i], []byte{}, b[i:j], nil, nil, b[j:], []byte{}); got != want {
				t.Errorf("cut at %d and %d: %d, not %d", i, j, got, want)
			}
		}
	}
	var single [][]byte
	for i := range b {
		single = append(single, b[i:i+1])
	}
	if got := crc.Sum(single...); got != want {
		t.Errorf("byte by byte: %d, not %d", got, want)
	}
	slices.Reverse(single)
	if got := crc.Sum(single...); got == want {
		t.Error("pieces the other way round have the same sum")
	}
}

// P2.1, P0.1, P0.4: no pieces, nil ones and empty ones are all nothing.
func TestSumOfNothing(t *testing.T) {
	for _, pieces := range [][][]byte{nil, {}, {nil}, {{}}, {nil, {}, nil}, {filled(0), nil}} {
		if got := crc.Sum(pieces...); got != 0 {
			t.Errorf("Sum of %v: %d", pieces, got)
		}
	}
}

// P0.3, P0.4: what is handed in stays as it is, the room behind it too, and no call knows of the one ahead of it.
func TestSumKeepsNothing(t *testing.T) {
	first, second := filled(33), filled(20)
	pieces := append(make([][]byte, 0, 4), first, nil, second)
	now := func() []byte { return slices.Concat(spare(first), spare(second)) }
	was := now()
	got := crc.Sum(pieces...)
	for range 3 {
		if again := crc.Sum(pieces...); again != got {
			t.Errorf("again: %d, not %d", again, got)
		}
	}
	if !slices.Equal(now(), was) {
		t.Errorf("summing changed %v to %v", was, now())
	}
	if &pieces[0][0] != &first[0] || pieces[1] != nil || &pieces[2][0] != &second[0] || pieces[:4][3] != nil {
		t.Error("the list of pieces was changed")
	}
	first[5] ^= 1
	if again := crc.Sum(pieces...); again == got || again != model(slices.Concat(first, second)) {
		t.Errorf("behind a change of a byte: %d", again)
	}
}

// P2.2, examples.
func TestJoinExamples(t *testing.T) {
	for _, c := range []struct {
		a, b uint32
		n    int
		want uint32
	}{
		{3904355907, 0, 0, 3904355907},
		{0, 3904355907, 1, 3904355907},
		{crc.Sum([]byte("1234")), crc.Sum([]byte("56789")), 5, 3421780262},
		{1, 2, -1, 0},
	} {
		if got := crc.Join(c.a, c.b, c.n); got != c.want {
			t.Errorf("Join of %d, %d, %d: %d, not %d", c.a, c.b, c.n, got, c.want)
		}
	}
}

// P2.2: as many shifts as the document says, of each bit alone and of others, numbers with all bits set among them.
func TestJoinShifts(t *testing.T) {
	from := slices.Clone(values)
	for i := range 32 {
		from = append(from, 1<<i)
	}
	for _, a := range from {
		v := a
		for n := range 600 {
			for _, b := range []uint32{0, 1, 0x80000000, math.MaxUint32} {
				if got := crc.Join(a, b, n); got != v^b {
					t.Fatalf("Join of %d, %d, %d: %d, not %d", a, b, n, got, v^b)
				}
			}
			v = shifted(v, 8)
		}
	}
	for _, a := range values {
		for _, b := range values {
			if got := crc.Join(a, b, 100000); got != shifted(a, 800000)^b {
				t.Fatalf("Join of %d, %d, 100000: %d", a, b, got)
			}
		}
	}
}

// P2.2, P0.2, P0.5: below 0 all is 0, whatever the sums.
func TestJoinBelow(t *testing.T) {
	for _, n := range below {
		for _, a := range values {
			for _, b := range values {
				if got := crc.Join(a, b, n); got != 0 {
					t.Errorf("Join of %d, %d, %d: %d", a, b, n, got)
				}
			}
		}
	}
}

// P2.2: 2^32 - 1 shifts bring each number back, so the greatest numbers of bytes are those that are left when as many are taken away. It would not end if they were gone through.
func TestJoinGreat(t *testing.T) {
	for _, n := range lengths() {
		for _, a := range values {
			for _, b := range values {
				if got, want := crc.Join(a, b, n), crc.Join(a, b, n%order); got != want {
					t.Fatalf("Join of %d, %d, %d: %d, not %d", a, b, n, got, want)
				}
			}
		}
	}
	for _, a := range values {
		for k := range 1 << 11 {
			if got := crc.Join(a, 0, k*order); got != a {
				t.Fatalf("%d times round: %d, not %d", k, got, a)
			}
		}
		// 8 times the greatest int is 4 short of a multiple of 2^32 - 1; 8 times 2^61 is one more than such a multiple.
		if got := shifted(crc.Join(a, 0, math.MaxInt), 4); got != a {
			t.Errorf("Join of %d by the greatest int, four shifts on: %d", a, got)
		}
		if got := crc.Join(a, 0, 1<<61); got != shifted(a, 1) {
			t.Errorf("Join of %d by 2^61: %d, not one shift", a, got)
		}
		if got := crc.Join(a, 0, 1<<61+1000); got != shifted(a, 8001) {
			t.Errorf("Join of %d by 2^61 + 1000: %d, not 8001 shifts", a, got)
		}
	}
}

// P2.3: of a whole, cut anywhere; joining to nothing, and nothing to it, changes nothing.
func TestJoined(t *testing.T) {
	for _, b := range [][]byte{filled(600), make([]byte, 300), slices.Repeat([]byte{255}, 300)} {
		whole := crc.Sum(b)
		for i := range len(b) + 1 {
			if got := crc.Join(crc.Sum(b[:i]), crc.Sum(b[i:]), len(b)-i); got != whole {
				t.Fatalf("%d bytes cut at %d: %d, not %d", len(b), i, got, whole)
			}
		}
	}
	for _, v := range values {
		if got := crc.Join(v, crc.Sum(), 0); got != v {
			t.Errorf("nothing behind %d: %d", v, got)
		}
		for _, n := range lengths() {
			if got := crc.Join(crc.Sum(nil), v, n); got != v {
				t.Errorf("nothing ahead of %d, of %d bytes: %d", v, n, got)
			}
		}
	}
}

// P2.3: of three pieces it doesn't matter which two are joined first, for real ones and for any sums and numbers of bytes.
func TestJoinedThree(t *testing.T) {
	b := filled(60)
	whole := crc.Sum(b)
	for i := range len(b) + 1 {
		for j := i; j <= len(b); j++ {
			x, y, z := crc.Sum(b[:i]), crc.Sum(b[i:j]), crc.Sum(b[j:])
			left := crc.Join(crc.Join(x, y, j-i), z, len(b)-j)
			right := crc.Join(x, crc.Join(y, z, len(b)-j), len(b)-i)
			if left != whole || right != whole {
				t.Fatalf("cut at %d and %d: %d and %d, not %d", i, j, left, right, whole)
			}
		}
	}
	few := []uint32{0, 1, 0x80000000, 0xdebb20e3, math.MaxUint32}
	for _, n := range lengths() {
		for _, m := range lengths() {
			if n > math.MaxInt-m {
				continue
			}
			for i, x := range few {
				y, z := few[(i+1)%len(few)], few[(i+3)%len(few)]
				left, right := crc.Join(crc.Join(x, y, n), z, m), crc.Join(x, crc.Join(y, z, m), n+m)
				if left != right {
					t.Fatalf("%d, then %d and %d bytes: %d and %d", x, n, m, left, right)
				}
			}
		}
	}
}

// turned answers b with the bits of a pattern turned about, from a bit on; each byte's lowest bit comes first.
func turned(b []byte, from int, pattern uint32) []byte {
	l := slices.Clone(b)
	for i := range 32 {
		if at := from + i; pattern>>i&1 == 1 {
			l[at/8] ^= 1 << (at % 8)
		}
	}
	return l
}

// patterns all begin with a bit of 1, and span from 1 to 32 bits; the sum's own polynomials are among them.
func patterns() []uint32 {
	l := []uint32{math.MaxUint32, 0x04c11db7, 0xedb88321, 0xdb710641, 0x80000001, 0xfffffffd}
	for i := range 32 {
		l = append(l, 1|1<<i, math.MaxUint32>>i, 1|0x9e3779b1*uint32(i+1), 1|0xdb710641>>i)
	}
	return l
}

// P2.4: wherever within the bytes the change stands, and whatever its up to 32 bits.
func TestOneChange(t *testing.T) {
	for _, b := range [][]byte{filled(4), filled(5), filled(70), make([]byte, 40), slices.Repeat([]byte{255}, 40)} {
		sum := crc.Sum(b)
		for _, p := range patterns() {
			for from := range 8*len(b) - 31 {
				if crc.Sum(turned(b, from, p)) == sum {
					t.Errorf("%d bytes: pattern %#x at bit %d isn't told", len(b), p, from)
				}
			}
		}
	}
	long := filled(100000)
	sum := crc.Sum(long)
	for from := 0; from < 8*len(long)-31; from += 79999 {
		if crc.Sum(turned(long, from, 0xdb710641)) == sum {
			t.Errorf("100000 bytes: at bit %d", from)
		}
	}
}

// P2.4: all bytes of one length that differ within their last or first bits have sums that all differ.
func TestChangesAllDiffer(t *testing.T) {
	for _, at := range []int{0, 3, 17, 30} {
		b := filled(32)
		seen := map[uint32]int{}
		for x := range 65536 {
			b[at], b[at+1] = byte(x), byte(x>>8)
			sum := crc.Sum(b)
			if was, is := seen[sum]; is {
				t.Fatalf("at %d: %d and %d have one sum", at, was, x)
			}
			seen[sum] = x
		}
	}
}
