// Package nums is layer 1: see shared/doc/01-nums.md.
package nums

import (
	"iter"
	"math"
	"math/bits"
)

// number: the kinds of number that stand in bytes.
type number interface{ uint16 | uint32 }

// Get16: P1.1.
func Get16(b []byte, at int) (uint32, bool) { return get[uint16](b, at) }

// Get32: P1.1.
func Get32(b []byte, at int) (uint32, bool) { return get[uint32](b, at) }

// Put16: P1.2.
func Put16(b []byte, at int, v uint32) bool {
	return v <= math.MaxUint16 && put(b, at, uint16(v))
}

// Put32: P1.2.
func Put32(b []byte, at int, v uint32) bool { return put(b, at, v) }

// Zero: P1.3.
func Zero(b []byte) bool {
	for _, x := range b {
		if x != 0 {
			return false
		}
	}
	return true
}

// Tell: P1.4.
func Tell(b []byte) iter.Seq2[int, uint32] {
	return func(yield func(int, uint32) bool) {
		for at := 0; ; at += width[uint32]() {
			v, ok := Get32(b, at)
			if !ok || !yield(at, v) {
				return
			}
		}
	}
}

// width counts N's bytes by its greatest number: a type's size is told by package unsafe alone, which is ruled out.
func width[N number]() int { return bits.Len32(uint32(^N(0))) / 8 }

// within tells whether n bytes at that place lie within b. Nothing is added to at, which may be near the greatest int.
func within(b []byte, at, n int) bool { return at >= 0 && at <= len(b)-n }

func get[N number](b []byte, at int) (uint32, bool) {
	n := width[N]()
	if !within(b, at, n) {
		return 0, false
	}
	var v N
	for i := n - 1; i >= 0; i-- {
		v = v<<8 | N(b[at+i])
	}
	return uint32(v), true
}

func put[N number](b []byte, at int, v N) bool {
	n := width[N]()
	if !within(b, at, n) {
		return false
	}
	for i := range n {
		b[at+i] = byte(v)
		v >>= 8
	}
	return true
}
