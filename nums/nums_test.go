package nums_test

import (
	"encoding/binary"
	"iter"
	"math"
	"slices"
	"testing"

	"quern/nums"
)

// edges are places that lie in no list, whatever its length; some overflow when a number's length is added.
var edges = []int{-1, -2, -3, -4, -5, -256, math.MinInt32, math.MinInt, math.MinInt + 1, math.MinInt + 4,
	math.MaxInt32 - 4, math.MaxInt32, math.MaxInt - 4, math.MaxInt - 3, math.MaxInt - 2, math.MaxInt - 1, math.MaxInt}

var values = []uint32{0, 1, 2, 127, 128, 255, 256, 257, 513, 0x7fff, 0x8000, 0xff00, 0xfffe, 0xffff,
	0x10000, 0x10001, 0x1ffff, 0x01020304, 0x7fffffff, 0x80000000, 0x80000001, 0xff000000, 0xffff0000, 0xfffffffe, 0xffffffff}

// filled answers n bytes that all differ from their neighbours, with spare room behind them that isn't zero.
func filled(n int) []byte {
	whole := make([]byte, n+8)
	for i := range whole {
		whole[i] = byte(0x81 + 37*i)
	}
	return whole[:n]
}

func spare(b []byte) []byte { return b[:cap(b)] }

func places(n int) []int {
	l := slices.Clone(edges)
	for at := range n + 9 {
		l = append(l, at)
	}
	return l
}

// P1.1, examples.
func TestGetExamples(t *testing.T) {
	type row struct {
		at   int
		want uint32
		is   bool
	}
	for _, c := range []row{{0, 513, true}, {1, 770, true}, {2, 0, false}, {-1, 0, false}} {
		if v, is := nums.Get16([]byte{1, 2, 3}, c.at); v != c.want || is != c.is {
			t.Errorf("Get16 at %d: %d %v", c.at, v, is)
		}
	}
	for _, c := range []row{{0, 67305985, true}, {1, 4278452994, true}, {2, 0, false}} {
		if v, is := nums.Get32([]byte{1, 2, 3, 4, 255}, c.at); v != c.want || is != c.is {
			t.Errorf("Get32 at %d: %d %v", c.at, v, is)
		}
	}
}

// P1.1, P0.2, P0.4, P0.5: at every place of short lists, and far outside them; spare room is no part of a list.
func TestGetEverywhere(t *testing.T) {
	for n := range 12 {
		b := filled(n)
		was := slices.Clone(spare(b))
		for _, at := range places(n) {
			var want16, want32 uint32
			is16, is32 := at >= 0 && at < n-1, at >= 0 && at < n-3
			if is16 {
				want16 = uint32(binary.LittleEndian.Uint16(b[at:]))
			}
			if is32 {
				want32 = binary.LittleEndian.Uint32(b[at:])
			}
			if v, is := nums.Get16(b, at); v != want16 || is != is16 {
				t.Errorf("Get16 of %v at %d: %d %v, not %d %v", b, at, v, is, want16, is16)
			}
			if v, is := nums.Get32(b, at); v != want32 || is != is32 {
				t.Errorf("Get32 of %v at %d: %d %v, not %d %v", b, at, v, is, want32, is32)
			}
		}
		if !slices.Equal(spare(b), was) {
			t.Errorf("getting changed %v to %v", was, spare(b))
		}
	}
}

// P1.2, examples.
func TestPutExamples(t *testing.T) {
	b := []byte{0, 0, 0}
	if !nums.Put16(b, 1, 65535) || !slices.Equal(b, []byte{0, 255, 255}) {
		t.Errorf("Put16 of 65535: %v", b)
	}
	b = []byte{0, 0, 0}
	if nums.Put16(b, 1, 65536) || !nums.Zero(b) {
		t.Errorf("Put16 of 65536: %v", b)
	}
	if nums.Put32(b, 0, 1) || !nums.Zero(b) {
		t.Errorf("Put32 into three bytes: %v", b)
	}
}

// P1.2, P0.3, P0.4, P0.5: each value at every place; all other bytes stay, those behind the list too, and all of them where it is refused.
func TestPutEverywhere(t *testing.T) {
	for n := range 9 {
		for _, at := range places(n) {
			for _, v := range values {
				checkPut16(t, n, at, v)
				checkPut32(t, n, at, v)
			}
		}
	}
}

func checkPut16(t *testing.T, n, at int, v uint32) {
	t.Helper()
	b := filled(n)
	want := slices.Clone(spare(b))
	is := at >= 0 && at < n-1 && v < 65536
	if is {
		binary.LittleEndian.PutUint16(want[at:], uint16(v))
	}
	if got := nums.Put16(b, at, v); got != is || !slices.Equal(spare(b), want) {
		t.Errorf("Put16 of %d into %d bytes at %d: %v %v, not %v %v", v, n, at, got, spare(b), is, want)
	}
}

func checkPut32(t *testing.T, n, at int, v uint32) {
	t.Helper()
	b := filled(n)
	want := slices.Clone(spare(b))
	is := at >= 0 && at < n-3
	if is {
		binary.LittleEndian.PutUint32(want[at:], v)
	}
	if got := nums.Put32(b, at, v); got != is || !slices.Equal(spare(b), want) {
		t.Errorf("Put32 of %d into %d bytes at %d: %v %v, not %v %v", v, n, at, got, spare(b), is, want)
	}
}

// P1.1 to P1.4, P0.1, P0.4: nil lists are as empty ones.
func TestNone(t *testing.T) {
	for _, b := range [][]byte{nil, {}, filled(0)} {
		for _, at := range append([]int{0, 1, 2, 3, 4}, edges...) {
			if v, is := nums.Get16(b, at); v != 0 || is {
				t.Errorf("Get16 of none at %d: %d %v", at, v, is)
			}
			if v, is := nums.Get32(b, at); v != 0 || is {
				t.Errorf("Get32 of none at %d: %d %v", at, v, is)
			}
			if nums.Put16(b, at, 0) || nums.Put32(b, at, 0) {
				t.Errorf("put into none at %d", at)
			}
		}
		if !nums.Zero(b) {
			t.Errorf("Zero of none: no")
		}
		for at, v := range nums.Tell(b) {
			t.Errorf("Tell of none: %d %d", at, v)
		}
	}
}

// P1.3: whatever the length, and wherever the one byte stands that isn't 0.
func TestZero(t *testing.T) {
	for _, n := range []int{1, 2, 3, 4, 5, 7, 8, 9, 15, 16, 17, 256, 257} {
		whole := make([]byte, n+1)
		whole[n] = 1
		b := whole[:n]
		if !nums.Zero(b) {
			t.Errorf("%d noughts: no", n)
		}
		for i := range b {
			for _, x := range []byte{1, 127, 128, 255} {
				b[i] = x
				if nums.Zero(b) {
					t.Errorf("%d bytes with a %d at %d: yes", n, x, i)
				}
				if b[i] != x {
					t.Errorf("Zero changed byte %d", i)
				}
			}
			b[i] = 0
		}
	}
	if nums.Zero([]byte{128, 128}) || nums.Zero([]byte{1, 255}) || nums.Zero([]byte{5, 0, 0, 5}) {
		t.Error("bytes that add up to 0, or are alike: yes")
	}
}

type told struct {
	at int
	v  uint32
}

func all(seq iter.Seq2[int, uint32]) []told {
	var l []told
	for at, v := range seq {
		l = append(l, told{at, v})
	}
	return l
}

// model tells what Tell is to tell, up to most numbers.
func model(b []byte, most int) []told {
	var l []told
	for at := 0; at+4 <= len(b) && len(l) < most; at += 4 {
		l = append(l, told{at, binary.LittleEndian.Uint32(b[at:])})
	}
	return l
}

// P1.4, example.
func TestTellExample(t *testing.T) {
	if l := all(nums.Tell([]byte{1, 0, 0, 0, 2, 0, 0, 0, 9})); !slices.Equal(l, []told{{0, 1}, {4, 2}}) {
		t.Errorf("%v", l)
	}
}

// P1.4, P0.4: every length, so each number of last bytes that are too few; a sequence may be gone over again; noughts are told.
func TestTellWhole(t *testing.T) {
	for n := range 300 {
		b := filled(n)
		was := slices.Clone(spare(b))
		seq := nums.Tell(b)
		for range 2 {
			if l := all(seq); !slices.Equal(l, model(b, n)) {
				t.Errorf("%d bytes: %v", n, l)
			}
		}
		if !slices.Equal(spare(b), was) {
			t.Errorf("telling changed %v to %v", was, spare(b))
		}
	}
	if l := all(nums.Tell(make([]byte, 11))); !slices.Equal(l, []told{{0, 0}, {4, 0}}) {
		t.Errorf("noughts: %v", l)
	}
}

// P1.4: a going over that is left is left at once, and the next one begins at 0.
func TestTellLeft(t *testing.T) {
	b := filled(23)
	seq := nums.Tell(b)
	for most := 1; most <= 6; most++ {
		var l []told
		seq(func(at int, v uint32) bool {
			l = append(l, told{at, v})
			return len(l) < most
		})
		if !slices.Equal(l, model(b, most)) {
			t.Errorf("left at %d: %v", most, l)
		}
	}
	for at := range seq {
		if at > 0 {
			t.Errorf("goes on to %d", at)
		}
		break
	}
}

// P1.4: two goings over of one sequence know nothing of each other.
func TestTellWithin(t *testing.T) {
	b := filled(14)
	seq := nums.Tell(b)
	var l []told
	for at, v := range seq {
		if in := all(seq); !slices.Equal(in, model(b, 9)) {
			t.Errorf("inner one at %d: %v", at, in)
		}
		l = append(l, told{at, v})
	}
	if !slices.Equal(l, model(b, 9)) {
		t.Errorf("outer one: %v", l)
	}
}

// P1.5: what was put is got, for all numbers of 16 bits and many of 32.
func TestPutThenGet(t *testing.T) {
	b := filled(9)
	for v := range uint32(65536) {
		at := int(v % 8)
		if !nums.Put16(b, at, v) {
			t.Fatalf("Put16 of %d at %d: no", v, at)
		}
		if got, is := nums.Get16(b, at); got != v || !is {
			t.Fatalf("Get16 of %d at %d: %d %v", v, at, got, is)
		}
	}
	mixed := slices.Clone(values)
	for i := range uint32(65536) {
		mixed = append(mixed, i*0x9e3779b1)
	}
	for i, v := range mixed {
		at := i % 6
		if !nums.Put32(b, at, v) {
			t.Fatalf("Put32 of %d at %d: no", v, at)
		}
		if got, is := nums.Get32(b, at); got != v || !is {
			t.Fatalf("Get32 of %d at %d: %d %v", v, at, got, is)
		}
	}
}

// P1.5: what is put again where it was got leaves the bytes as they are; a number of 32 bits is that of its two of 16.
func TestGetThenPut(t *testing.T) {
	b := filled(200)
	was := slices.Clone(spare(b))
	for at := range len(b) - 1 {
		v, _ := nums.Get16(b, at)
		if !nums.Put16(b, at, v) || !slices.Equal(spare(b), was) {
			t.Fatalf("16 bits put again at %d", at)
		}
	}
	for at := range len(b) - 3 {
		v, _ := nums.Get32(b, at)
		if !nums.Put32(b, at, v) || !slices.Equal(spare(b), was) {
			t.Fatalf("32 bits put again at %d", at)
		}
		low, _ := nums.Get16(b, at)
		high, _ := nums.Get16(b, at+2)
		if v != low+65536*high {
			t.Errorf("at %d: %d, of %d and %d", at, v, low, high)
		}
	}
}
