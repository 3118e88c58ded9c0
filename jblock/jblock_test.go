package jblock_test

import (
	"encoding/binary"
	"math"
	"slices"
	"testing"

	"quern/api"
	"quern/jblock"
)

// magic is the document's 0x4C4E4A51, byte by byte.
var magic = []byte{0x51, 0x4A, 0x4E, 0x4C}

// far are numbers that neither a Start nor a count may be: near the least and the greatest int, and such as are a good one in their lowest 8, 16 or 32 bits.
var far = []int{math.MinInt, math.MinInt + 1, math.MinInt + 7, math.MinInt / 2, math.MinInt32, -1 << 32, -1<<32 + 1, -1 << 16, -1<<16 + 1, -512, -257, -256, -255, -128, -2, -1,
	257, 258, 511, 512, 513, 65535, 1 << 16, 1<<16 + 1, 1<<16 + 7, 1<<16 + 255, 1 << 24, 1 << 31, 1<<31 + 1, 1<<32 - 1, 1 << 32, 1<<32 + 1, 1<<32 + 7, 1<<32 + 255, 1<<32 + 256, 1 << 62, math.MaxInt32, math.MaxInt - 1, math.MaxInt}

// seqs are sequence numbers that may be, noSeqs such as may not.
var (
	seqs   = []uint32{1, 2, 3, 7, 127, 128, 255, 256, 257, 65535, 1 << 16, 1<<16 + 1, 1 << 24, 0x12345678, 1 << 30, 1<<31 - 2, 1<<31 - 1, 1 << 31}
	noSeqs = []uint32{0, 1<<31 + 1, 1<<31 + 2, 1<<31 + 255, 1<<31 + 1<<16, 3 << 30, 1<<32 - 256, 1<<32 - 2, 1<<32 - 1}
)

// sums are sums, and other numbers of 32 bits.
var sums = []uint32{0, 1, 2, 255, 256, 65535, 1 << 16, 1 << 24, 1<<31 - 1, 1 << 31, 1<<31 + 1, 0x4C4E4A51, 0x89ABCDEF, 1<<32 - 2, 1<<32 - 1}

func head(seq uint32, start int) api.Head { return api.Head{Seq: seq, Start: start} }

func tag(block uint32, escaped bool) api.Tag { return api.Tag{Block: block, Escaped: escaped} }

// block is one that begins with these numbers, of 32 bits each.
func block(l ...uint32) api.Block {
	var p []byte
	for _, v := range l {
		p = binary.LittleEndian.AppendUint32(p, v)
	}
	return bytesOf(p...)
}

// journal is a block that begins with the magic number and these numbers.
func journal(l ...uint32) api.Block {
	b := block(l...)
	copy(b[4:], b[:252])
	copy(b[:], magic)
	return b
}

func bytesOf(l ...byte) api.Block {
	var b api.Block
	copy(b[:], l)
	return b
}

func at(b api.Block, place int) uint32 { return binary.LittleEndian.Uint32(b[place:]) }

// descOf is a descriptor by the document's own words, whether it may be or not.
func descOf(seq uint32, l []api.Tag) api.Block {
	p := []uint32{1, seq, uint32(len(l))}
	for _, t := range l {
		mark := uint32(0)
		if t.Escaped {
			mark = 1
		}
		p = append(p, t.Block, mark)
	}
	return journal(p...)
}

// revokeOf is a revoke block likewise.
func revokeOf(seq uint32, l []uint32) api.Block {
	return journal(append([]uint32{3, seq, uint32(len(l))}, l...)...)
}

// told is what a block tells, if it is a journal block.
type told struct {
	kind   uint8
	seq    uint32
	fourth int
	sum    uint32
	tags   []api.Tag
	revoke []uint32
}

// kindOf is the kind and the sequence number by the document's own words.
func kindOf(b api.Block) (uint8, uint32) {
	if !slices.Equal(b[:4], magic) || b[4] < 1 || b[4] > 4 || b[5] != 0 || b[6] != 0 || b[7] != 0 {
		return 0, 0
	}
	if seq := at(b, 8); seq != 0 && (seq < 0x80000000 || seq == 0x80000000) {
		return b[4], seq
	}
	return 0, 0
}

// toldBy reads a block by the document's own words; of one that is no journal block it answers noughts.
func toldBy(b api.Block) told {
	kind, seq := kindOf(b)
	x, end := told{kind: kind, seq: seq, fourth: int(at(b, 12))}, 16
	switch kind {
	case 0:
		return told{}
	case 4:
		if x.fourth > 255 {
			return told{}
		}
	case 2:
		x.sum, end = at(b, 16), 20
		if x.fourth < 1 || x.fourth > 256 {
			return told{}
		}
	case 1:
		if x.fourth < 1 || x.fourth > 30 {
			return told{}
		}
		for end = 16; len(x.tags) < x.fourth; end += 8 {
			if at(b, end+4) > 1 {
				return told{}
			}
			x.tags = append(x.tags, tag(at(b, end), b[end+4] == 1))
		}
		for i := range x.fourth - 1 {
			if x.tags[i].Block >= x.tags[i+1].Block {
				return told{}
			}
		}
	case 3:
		if x.fourth < 1 || x.fourth > 60 {
			return told{}
		}
		for end = 16; len(x.revoke) < x.fourth; end += 4 {
			x.revoke = append(x.revoke, at(b, end))
		}
		for i := range x.fourth - 1 {
			if x.revoke[i] >= x.revoke[i+1] {
				return told{}
			}
		}
	}
	for _, v := range b[end:] {
		if v != 0 {
			return told{}
		}
	}
	return x
}

// writesHead holds what comes of writing a head; the other ones below likewise.
func writesHead(t *testing.T, h api.Head, want api.Block, e api.Errno) {
	t.Helper()
	if b, got := jblock.WriteHead(h); b != want || got != e {
		t.Fatalf("WriteHead of %v: %v %d, not %v %d", h, b, got, want, e)
	}
}

func writesCommit(t *testing.T, seq uint32, count int, sum uint32, want api.Block, e api.Errno) {
	t.Helper()
	if b, got := jblock.WriteCommit(seq, count, sum); b != want || got != e {
		t.Fatalf("WriteCommit of %d, %d, %d: %v %d, not %v %d", seq, count, sum, b, got, want, e)
	}
}

func writesDesc(t *testing.T, seq uint32, l []api.Tag, want api.Block, e api.Errno) {
	t.Helper()
	if b, got := jblock.WriteDesc(seq, l); b != want || got != e {
		t.Fatalf("WriteDesc of %d, %v: %v %d, not %v %d", seq, l, b, got, want, e)
	}
}

func writesRevoke(t *testing.T, seq uint32, l []uint32, want api.Block, e api.Errno) {
	t.Helper()
	if b, got := jblock.WriteRevoke(seq, l); b != want || got != e {
		t.Fatalf("WriteRevoke of %d, %v: %v %d, not %v %d", seq, l, b, got, want, e)
	}
}

func readsHead(t *testing.T, b api.Block, want api.Head, e api.Errno) {
	t.Helper()
	if h, got := jblock.ReadHead(b); h != want || got != e {
		t.Fatalf("ReadHead of %v: %v %d, not %v %d", b, h, got, want, e)
	}
}

func readsCommit(t *testing.T, b api.Block, seq uint32, count int, sum uint32, e api.Errno) {
	t.Helper()
	if s, n, x, got := jblock.ReadCommit(b); s != seq || n != count || x != sum || got != e {
		t.Fatalf("ReadCommit of %v: %d %d %d %d, not %d %d %d %d", b, s, n, x, got, seq, count, sum, e)
	}
}

func readsDesc(t *testing.T, b api.Block, seq uint32, want []api.Tag, e api.Errno) {
	t.Helper()
	if s, l, got := jblock.ReadDesc(b); s != seq || !slices.Equal(l, want) || got != e {
		t.Fatalf("ReadDesc of %v: %d %v %d, not %d %v %d", b, s, l, got, seq, want, e)
	}
}

func readsRevoke(t *testing.T, b api.Block, seq uint32, want []uint32, e api.Errno) {
	t.Helper()
	if s, l, got := jblock.ReadRevoke(b); s != seq || !slices.Equal(l, want) || got != e {
		t.Fatalf("ReadRevoke of %v: %d %v %d, not %d %v %d", b, s, l, got, seq, want, e)
	}
}

func hasKind(t *testing.T, b api.Block, kind uint8, seq uint32) {
	t.Helper()
	if k, s := jblock.Kind(b); k != kind || s != seq {
		t.Fatalf("Kind of %v: %d %d, not %d %d", b, k, s, kind, seq)
	}
}

// escapes holds what Escape and Unescape make of a block: P9.4, P9.6.
func escapes(t *testing.T, b api.Block) {
	t.Helper()
	want, is := b, slices.Equal(b[:4], magic)
	if is {
		want[0], want[1], want[2], want[3] = 0, 0, 0, 0
	}
	got, was := jblock.Escape(b)
	if got != want || was != is {
		t.Fatalf("Escape of %v: %v %v, not %v %v", b, got, was, want, is)
	}
	hasKind(t, got, 0, 0)
	want = b
	copy(want[:], magic)
	if back := jblock.Unescape(got); back != want || is && back != b {
		t.Fatalf("Unescape of %v: %v, not %v", got, back, want)
	}
}

// holds holds what all calls tell of a block to what the document's words say, and what was read to what is written of it: P9.2, P9.3, P9.5. It tells whether the block is a journal block.
func holds(t *testing.T, b api.Block) bool {
	t.Helper()
	kind, seq := kindOf(b)
	hasKind(t, b, kind, seq)
	x := toldBy(b)
	for _, k := range []uint8{1, 2, 3, 4} {
		e, y := api.ErrJournal, told{}
		if x.kind == k {
			e, y = api.OK, x
		}
		switch k {
		case 4:
			readsHead(t, b, head(y.seq, y.fourth), e)
		case 2:
			readsCommit(t, b, y.seq, y.fourth, y.sum, e)
		case 1:
			readsDesc(t, b, y.seq, y.tags, e)
		case 3:
			readsRevoke(t, b, y.seq, y.revoke, e)
		}
	}
	writesTold(t, x, b)
	return x.kind != 0
}

// writesTold holds that what a journal block tells is written as just that block.
func writesTold(t *testing.T, x told, b api.Block) {
	t.Helper()
	switch x.kind {
	case 4:
		writesHead(t, head(x.seq, x.fourth), b, api.OK)
	case 2:
		writesCommit(t, x.seq, x.fourth, x.sum, b, api.OK)
	case 1:
		writesDesc(t, x.seq, x.tags, b, api.OK)
	case 3:
		writesRevoke(t, x.seq, x.revoke, b, api.OK)
	}
}

// right holds all of a block that is a journal block.
func right(t *testing.T, b api.Block) {
	t.Helper()
	if !holds(t, b) {
		t.Fatalf("%v is a journal block", b)
	}
	escapes(t, b)
}

// wrong holds all of a block that isn't one.
func wrong(t *testing.T, b api.Block) {
	t.Helper()
	if holds(t, b) {
		t.Fatalf("%v is no journal block", b)
	}
	escapes(t, b)
}

// rising are n numbers, by steps, the last one at most so great.
func rising(n int, first, step uint32) []uint32 {
	l := make([]uint32, n)
	for i := range l {
		l[i] = first + uint32(i)*step
	}
	return l
}

// tagged are tags of these blocks; the bits of marks, over and over, tell which of them are Escaped.
func tagged(l []uint32, marks uint32) []api.Tag {
	r := make([]api.Tag, len(l))
	for i, v := range l {
		r[i] = tag(v, marks>>(i%32)&1 == 1)
	}
	return r
}

// lists are n rising numbers each: from 0 on, up to the greatest, spread over all, with 0 and the greatest, and some between.
func lists(n int) [][]uint32 {
	l := [][]uint32{rising(n, 0, 1), rising(n, math.MaxUint32-uint32(n)+1, 1), rising(n, 3, 1<<24+1), rising(n, 200, 7), rising(n, 1<<31-uint32(n)/2, 1), rising(n, 1<<16-uint32(n)/2, 1)}
	if n > 1 {
		both := rising(n, 0, 1<<25)
		both[n-1] = math.MaxUint32
		l = append(l, both)
	}
	return l
}

// random is a row of numbers that are the same at each run.
type random uint64

func (r *random) next(n int) int {
	*r = *r*6364136223846793005 + 1442695040888963407
	return int(uint64(*r)>>33) % n
}

func (r *random) long() uint32 { return uint32(r.next(1<<16))<<16 | uint32(r.next(1<<16)) }

// rise are so many numbers at most, rising.
func (r *random) rise(n int) []uint32 {
	l := make([]uint32, n)
	for i := range l {
		if l[i] = r.long(); r.next(2) == 0 {
			l[i] %= 2048
		}
	}
	slices.Sort(l)
	return slices.Compact(l)
}

// Examples of the chapter.
func TestExamples(t *testing.T) {
	h := bytesOf(81, 74, 78, 76, 4, 0, 0, 0, 7, 0, 0, 0, 3, 0, 0, 0)
	writesHead(t, head(7, 3), h, api.OK)
	readsHead(t, h, head(7, 3), api.OK)
	for _, x := range []api.Head{head(0, 3), head(7, 256), head(7, -1), head(1<<31+1, 0)} {
		writesHead(t, x, api.Block{}, api.ErrArg)
	}

	l := []api.Tag{tag(5, false), tag(9, true)}
	d := bytesOf(81, 74, 78, 76, 1, 0, 0, 0, 2, 0, 0, 0, 2, 0, 0, 0, 5, 0, 0, 0, 0, 0, 0, 0, 9, 0, 0, 0, 1, 0, 0, 0)
	writesDesc(t, 2, l, d, api.OK)
	readsDesc(t, d, 2, l, api.OK)
	for _, x := range [][]api.Tag{nil, {}, tagged(rising(31, 1, 1), 0), make([]api.Tag, 31), {tag(9, false), tag(5, false)}, {tag(5, false), tag(5, true)}} {
		writesDesc(t, 2, x, api.Block{}, api.ErrArg)
	}

	hasKind(t, h, 4, 7)
	hasKind(t, api.Block{}, 0, 0)
	other := h
	other[4] = 5
	hasKind(t, other, 0, 0)
	other = h
	other[5] = 1
	hasKind(t, other, 0, 0)

	if b, is := jblock.Escape(bytesOf(81, 74, 78, 76, 9)); b != bytesOf(0, 0, 0, 0, 9) || !is {
		t.Errorf("Escape: %v %v", b, is)
	}
	if b, is := jblock.Escape(bytesOf(81, 74, 78, 0)); b != bytesOf(81, 74, 78) || is {
		t.Errorf("Escape: %v %v", b, is)
	}
}

// P9.1, P9.5: heads: each Start, each sequence number.
func TestHeads(t *testing.T) {
	for _, seq := range seqs {
		for start := range 256 {
			b := journal(4, seq, uint32(start))
			writesHead(t, head(seq, start), b, api.OK)
			right(t, b)
		}
		for _, start := range append([]int{256}, far...) {
			writesHead(t, head(seq, start), api.Block{}, api.ErrArg)
		}
	}
	for _, seq := range noSeqs {
		for start := -1; start <= 256; start++ {
			writesHead(t, head(seq, start), api.Block{}, api.ErrArg)
		}
		for _, start := range far {
			writesHead(t, head(seq, start), api.Block{}, api.ErrArg)
		}
	}
}

// P9.1, P9.5: commit blocks: each count, each sequence number, sums.
func TestCommits(t *testing.T) {
	for _, seq := range seqs {
		for count := 1; count <= 256; count++ {
			sum := sums[count%len(sums)]
			b := journal(2, seq, uint32(count), sum)
			writesCommit(t, seq, count, sum, b, api.OK)
			right(t, b)
		}
		for _, sum := range sums {
			for _, count := range []int{1, 2, 255, 256} {
				b := journal(2, seq, uint32(count), sum)
				writesCommit(t, seq, count, sum, b, api.OK)
				right(t, b)
			}
			for _, count := range append([]int{0}, far...) {
				writesCommit(t, seq, count, sum, api.Block{}, api.ErrArg)
			}
		}
	}
	for _, seq := range noSeqs {
		for count := -1; count <= 257; count++ {
			writesCommit(t, seq, count, 9, api.Block{}, api.ErrArg)
		}
		for _, count := range far {
			writesCommit(t, seq, count, 9, api.Block{}, api.ErrArg)
		}
	}
}

// P9.1, P9.5: descriptors and revoke blocks: each length that may be, and lists of each kind.
func TestLists(t *testing.T) {
	for i := range 60 {
		n, seq := i+1, seqs[i%len(seqs)]
		for _, l := range lists(n) {
			writesRevoke(t, seq, l, revokeOf(seq, l), api.OK)
			right(t, revokeOf(seq, l))
			for _, marks := range []uint32{0, math.MaxUint32, 0x55555555, 0xAAAAAAAA, 1, 1 << ((n - 1) % 32), 0x6AD3} {
				if m := tagged(l, marks); n <= 30 {
					writesDesc(t, seq, m, descOf(seq, m), api.OK)
					right(t, descOf(seq, m))
				} else {
					writesDesc(t, seq, m, api.Block{}, api.ErrArg)
				}
			}
		}
	}
	for _, seq := range seqs {
		l := []uint32{4, 6}
		writesRevoke(t, seq, l, revokeOf(seq, l), api.OK)
		right(t, revokeOf(seq, l))
		writesDesc(t, seq, tagged(l, 2), descOf(seq, tagged(l, 2)), api.OK)
		right(t, descOf(seq, tagged(l, 2)))
	}
}

// P9.1: lists of no row, and of too many.
func TestLengths(t *testing.T) {
	for _, n := range []int{0, 31, 32, 33, 60, 61, 62, 63, 64, 100, 255, 256, 257, 258, 286, 512, 65535, 65536, 65537, 65540, 65566} {
		for _, l := range lists(n) {
			for _, seq := range []uint32{1, 2, 1 << 31} {
				writesDesc(t, seq, tagged(l, 0x6AD3), api.Block{}, api.ErrArg)
				if n != 31 && n != 32 && n != 33 && n != 60 {
					writesRevoke(t, seq, l, api.Block{}, api.ErrArg)
				}
			}
		}
	}
	writesDesc(t, 1, nil, api.Block{}, api.ErrArg)
	writesRevoke(t, 1, nil, api.Block{}, api.ErrArg)
	writesRevoke(t, 1, make([]uint32, 61), api.Block{}, api.ErrArg)
	// Room behind a list's end doesn't count.
	l := rising(100, 8, 3)
	writesRevoke(t, 1, l[:0], api.Block{}, api.ErrArg)
	writesRevoke(t, 1, l[:60], revokeOf(1, l[:60]), api.OK)
	m := tagged(l, 5)
	writesDesc(t, 1, m[:0], api.Block{}, api.ErrArg)
	writesDesc(t, 1, m[:30], descOf(1, m[:30]), api.OK)
}

// P9.1: sequence numbers that may not be, with lists that may.
func TestListsSeq(t *testing.T) {
	for _, seq := range noSeqs {
		for _, n := range []int{1, 2, 30, 60} {
			for _, l := range lists(n) {
				writesRevoke(t, seq, l, api.Block{}, api.ErrArg)
				wrong(t, revokeOf(seq, l))
				if n <= 30 {
					writesDesc(t, seq, tagged(l, 1), api.Block{}, api.ErrArg)
					wrong(t, descOf(seq, tagged(l, 1)))
				}
			}
		}
	}
}

// P9.1, P9.2: a list that falls, or has one number twice, at each place, is neither written nor read.
func TestNotRising(t *testing.T) {
	for _, n := range []int{2, 3, 4, 29, 30, 31, 59, 60} {
		for _, l := range lists(n) {
			for i := range n - 1 {
				fall, twice, far := slices.Clone(l), slices.Clone(l), slices.Clone(l)
				fall[i], fall[i+1] = fall[i+1], fall[i]
				twice[i+1] = twice[i]
				far[0], far[i+1] = far[i+1], far[0]
				for _, m := range [][]uint32{fall, twice, far} {
					notRising(t, m)
				}
			}
		}
	}
	for _, l := range [][]uint32{{1 << 31, 0}, {math.MaxUint32, 0}, {1<<31 + 1, 1}, {0, 0}, {math.MaxUint32, math.MaxUint32}, {256, 1}, {1 << 24, 65535}, {1, 2, 2}, {1, 3, 2}} {
		notRising(t, l)
	}
	for _, l := range [][]uint32{{0, 1 << 31}, {0, math.MaxUint32}, {1, 1<<31 + 1}, {1, 256}, {65535, 1 << 24}, {1<<31 - 1, 1 << 31}} {
		writesRevoke(t, 5, l, revokeOf(5, l), api.OK)
		right(t, revokeOf(5, l))
		writesDesc(t, 5, tagged(l, 1), descOf(5, tagged(l, 1)), api.OK)
		right(t, descOf(5, tagged(l, 1)))
	}
}

// notRising holds that a list that doesn't rise is refused, with whatever marks.
func notRising(t *testing.T, l []uint32) {
	t.Helper()
	writesRevoke(t, 9, l, api.Block{}, api.ErrArg)
	wrong(t, revokeOf(9, l))
	for _, marks := range []uint32{0, 1, 0x55555555, 0xAAAAAAAA, math.MaxUint32} {
		if m := tagged(l, marks); len(l) <= 30 {
			writesDesc(t, 9, m, api.Block{}, api.ErrArg)
			wrong(t, descOf(9, m))
		}
	}
}

// grounds are journal blocks of each kind, with few bytes and with many.
func grounds() []api.Block {
	full := tagged(rising(30, 0x01010101, 0x03030303), 0x2A5F33C1)
	return []api.Block{
		journal(4, 7, 3), journal(4, 1, 0), journal(4, 1<<31, 255), journal(4, 0x01020304, 128),
		journal(2, 3, 256, 9), journal(2, 1, 1, 0), journal(2, 1<<31, 255, math.MaxUint32), journal(2, 0x7FFFFFFF, 17, 0x89ABCDEF),
		descOf(2, tagged([]uint32{5, 9}, 2)), descOf(1, tagged([]uint32{0}, 0)), descOf(1<<31, full), descOf(256, full[:29]), descOf(77, tagged(rising(30, 0, 1), 0)),
		revokeOf(2, []uint32{4, 6}), revokeOf(1, []uint32{0}), revokeOf(1<<31, rising(60, 0x01010101, 0x03030303)), revokeOf(65536, rising(59, 0x01010101, 0x04040404)), revokeOf(78, rising(60, 0, 1)),
	}
}

// P9.2, P9.3, P9.5: each byte of these otherwise: with each value among the first 28 and the last 20, with some between.
func TestEachByte(t *testing.T) {
	for _, b := range grounds() {
		right(t, b)
		for i := range b {
			was := b[i]
			for v := range 256 {
				if b[i] = byte(v); i < 28 || i > 235 || v < 3 || v == 128 || v == 255 || v == int(was)+1 || v == int(was)-1 {
					holds(t, b)
				}
			}
			b[i] = was
		}
	}
}

// P9.2: each byte behind what is told must be a nought, the last one too; each of the first twelve is as it must be, or tells another kind or number.
func TestOneByteTurned(t *testing.T) {
	for _, b := range grounds() {
		x, end := toldBy(b), 16
		switch x.kind {
		case 2:
			end = 20
		case 1:
			end = 16 + 8*len(x.tags)
		case 3:
			end = 16 + 4*len(x.revoke)
		}
		for i := range 8 {
			for bit := range 8 {
				turned := b
				turned[i] ^= 1 << bit
				if turned[4] == 0 || turned[4] > 4 || i != 4 {
					wrong(t, turned)
				}
			}
		}
		for i := end; i < 256; i++ {
			for _, v := range []byte{1, 2, 127, 128, 255} {
				turned := b
				turned[i] = v
				wrong(t, turned)
			}
		}
	}
}

// P9.2: counts and Starts that may not be, read; with noughts behind them, and with rows.
func TestReadNumbers(t *testing.T) {
	row := rising(60, 1, 1)
	for _, v := range []uint32{0, 1, 2, 29, 30, 31, 32, 59, 60, 61, 62, 64, 120, 255, 256, 257, 258, 285, 286, 287, 316, 512, 65535, 65536, 65537, 65566, 65596, 1 << 24, 1<<24 + 1, 1<<24 + 30, 1<<24 + 60, 1<<31 - 1, 1 << 31, 1<<31 + 1, 1<<31 + 30, 1<<32 - 60, 1<<32 - 2, 1<<32 - 1} {
		for kind := uint32(1); kind <= 4; kind++ {
			holds(t, journal(kind, 5, v))
			for n := range row {
				holds(t, journal(append([]uint32{kind, 5, v}, row[:n+1]...)...))
			}
		}
		if holds(t, journal(4, 5, v)) != (v <= 255) {
			t.Fatalf("a head with a Start of %d", v)
		}
		if holds(t, journal(2, 5, v, 9)) != (v >= 1 && v <= 256) {
			t.Fatalf("a commit block with a count of %d", v)
		}
	}
	// A count with more or fewer rows behind it than it tells.
	for n := 1; n <= 60; n++ {
		for count := range uint32(64) {
			b := revokeOf(5, row[:n])
			b[12] = byte(count)
			if holds(t, b) != (int(count) == n) {
				t.Fatalf("%d numbers of a count of %d", n, count)
			}
			if n <= 30 {
				b = descOf(5, tagged(row[:n], 0x2A5F33C1))
				b[12] = byte(count)
				if holds(t, b) != (int(count) == n) {
					t.Fatalf("%d tags of a count of %d", n, count)
				}
			}
		}
	}
}

// P9.2: a tag's second number is 1 or 0, at each tag.
func TestMarks(t *testing.T) {
	for _, n := range []int{1, 2, 15, 30} {
		for i := range n {
			for _, v := range []uint32{2, 3, 4, 128, 254, 255, 256, 257, 1 << 16, 1<<16 + 1, 1 << 24, 1<<24 + 1, 1 << 31, 1<<31 + 1, 1<<32 - 2, 1<<32 - 1} {
				b := descOf(6, tagged(rising(n, 10, 3), 0x2A5F33C1))
				binary.LittleEndian.PutUint32(b[16+8*i+4:], v)
				wrong(t, b)
			}
			for _, v := range []uint32{0, 1} {
				b := descOf(6, tagged(rising(n, 10, 3), 0x2A5F33C1))
				binary.LittleEndian.PutUint32(b[16+8*i+4:], v)
				right(t, b)
			}
		}
	}
}

// P9.2: noughts, ones, and blocks that are full of one byte are none; neither are those whose parts stand elsewhere.
func TestOtherBlocks(t *testing.T) {
	for v := range 256 {
		b := api.Block{}
		for i := range b {
			b[i] = byte(v)
		}
		wrong(t, b)
		copy(b[:], magic)
		wrong(t, b)
	}
	for _, b := range grounds() {
		for _, by := range []int{1, 2, 4, 8, 12, 128, 255} {
			turned := api.Block(append(slices.Clone(b[by:]), b[:by]...))
			wrong(t, turned)
		}
	}
}

// P9.3: the first 12 bytes alone tell the kind, whatever stands behind them.
func TestKinds(t *testing.T) {
	var kinds []uint32
	for v := range uint32(300) {
		kinds = append(kinds, v)
	}
	for v := range uint32(6) {
		kinds = append(kinds, v<<8, v<<16, v<<24, 1<<16|v, 1<<24|v, 1<<31|v, math.MaxUint32-v)
	}
	for _, kind := range kinds {
		for i, seq := range append(slices.Clone(seqs), noSeqs...) {
			for _, rest := range [][]uint32{{0}, {999, 999}, rising(61, 1<<31, 1), rising(61, math.MaxUint32, 0)} {
				b := journal(append([]uint32{kind, seq}, rest...)...)
				if i < len(seqs) && kind >= 1 && kind <= 4 {
					hasKind(t, b, uint8(kind), seq)
				} else {
					hasKind(t, b, 0, 0)
				}
			}
		}
	}
}

// P9.4, P9.6: each byte of the magic number otherwise; whatever stands behind it.
func TestEscape(t *testing.T) {
	r := random(1)
	for _, b := range append(grounds(), api.Block{}, block(1, 4, 7, 3), block(0x514A4E4C, 9), block(0, 4, 7, 3)) {
		escapes(t, b)
		for i := range 4 {
			for v := range 256 {
				x := b
				x[i] = byte(v)
				escapes(t, x)
			}
		}
		for range 200 {
			x := b
			x[r.next(256)] = byte(r.next(256))
			x[r.next(256)] = byte(r.next(256))
			escapes(t, x)
		}
	}
	// The magic number elsewhere doesn't count.
	for i := 1; i <= 252; i++ {
		var b api.Block
		copy(b[i:], magic)
		escapes(t, b)
		if _, is := jblock.Escape(b); is {
			t.Fatalf("the magic number at %d", i)
		}
	}
	if b := jblock.Unescape(bytesOf(1, 2, 3, 4, 5)); b != bytesOf(81, 74, 78, 76, 5) {
		t.Errorf("Unescape: %v", b)
	}
	if b := jblock.Unescape(journal(4, 7, 3)); b != journal(4, 7, 3) {
		t.Errorf("Unescape: %v", b)
	}
}

// All promises, at lists and blocks of all sorts.
func TestMany(t *testing.T) {
	r := random(7)
	seen := map[bool]int{}
	for range 20000 {
		l := r.rise(1 + r.next(60))
		seq := uint32(1 + r.next(1<<31-1))
		b := revokeOf(seq, l)
		switch r.next(4) {
		case 0:
			b = descOf(seq, tagged(l[:min(len(l), 30)], r.long()))
		case 1:
			b = journal(2, seq, uint32(1+r.next(256)), r.long())
		case 2:
			b = journal(4, seq, uint32(r.next(256)))
		}
		right(t, b)
		for range 1 + r.next(3) {
			b[r.next(256)] ^= byte(r.next(256))
			b[r.next(24)] ^= 1 << r.next(8)
		}
		seen[holds(t, b)]++
		escapes(t, b)
	}
	if seen[true] == 0 || seen[false] == 0 {
		t.Errorf("%v", seen)
	}
}

// P0.4: lists that are handed in stay as they are, the room behind them too, whether the call refuses them or not; and they are not kept.
func TestListsStay(t *testing.T) {
	for _, n := range []int{0, 1, 2, 29, 30, 31, 60, 61} {
		for _, l := range [][]uint32{rising(64, 3, 5), rising(64, 3, 0), rising(64, math.MaxUint32, math.MaxUint32)} {
			m := tagged(l, 0x2A5F33C1)
			wasL, wasM := slices.Clone(l), slices.Clone(m)
			revoke, _ := jblock.WriteRevoke(4, l[:n])
			desc, _ := jblock.WriteDesc(4, m[:n])
			if !slices.Equal(l, wasL) || !slices.Equal(m, wasM) {
				t.Fatalf("%d: %v %v", n, l, m)
			}
			clear(l)
			clear(m)
			if b, _ := jblock.WriteRevoke(4, wasL[:n]); b != revoke {
				t.Fatalf("%d: %v", n, b)
			}
			if b, _ := jblock.WriteDesc(4, wasM[:n]); b != desc {
				t.Fatalf("%d: %v", n, b)
			}
		}
	}
}

// P0.4: what is told is the caller's own, the room behind it too.
func TestNewMemory(t *testing.T) {
	for n := 1; n <= 60; n++ {
		l := rising(n, 3, 5)
		b := revokeOf(4, l)
		_, first, _ := jblock.ReadRevoke(b)
		_, second, _ := jblock.ReadRevoke(b)
		for i := range first[:cap(first)] {
			first[:cap(first)][i] = 999
		}
		_ = append(first, 1, 2, 3)
		if !slices.Equal(second, l) {
			t.Fatalf("%d: %v", n, second)
		}
		readsRevoke(t, b, 4, l, api.OK)
		if n > 30 {
			continue
		}
		m := tagged(l, 0x2A5F33C1)
		b = descOf(4, m)
		_, one, _ := jblock.ReadDesc(b)
		_, other, _ := jblock.ReadDesc(b)
		for i := range one[:cap(one)] {
			one[:cap(one)][i] = tag(999, true)
		}
		_ = append(one, tag(1, true))
		if !slices.Equal(other, m) {
			t.Fatalf("%d: %v", n, other)
		}
		readsDesc(t, b, 4, m, api.OK)
	}
}

// P0.2, P0.3: what is refused tells nothing else, and changes nothing of what a later call tells.
func TestRefused(t *testing.T) {
	l, m := []uint32{4, 6}, tagged([]uint32{5, 9}, 2)
	for range 3 {
		writesHead(t, head(0, 256), api.Block{}, api.ErrArg)
		writesDesc(t, 0, []api.Tag{tag(9, true), tag(9, true)}, api.Block{}, api.ErrArg)
		writesRevoke(t, 0, []uint32{9, 9}, api.Block{}, api.ErrArg)
		writesCommit(t, 0, 257, 9, api.Block{}, api.ErrArg)
		for _, b := range []api.Block{{}, descOf(3, []api.Tag{tag(9, true), tag(9, true)}), revokeOf(3, []uint32{9, 9}), journal(4, 5, 256), journal(2, 5, 257, 9)} {
			wrong(t, b)
		}
		writesHead(t, head(7, 3), journal(4, 7, 3), api.OK)
		writesDesc(t, 2, m, journal(1, 2, 2, 5, 0, 9, 1), api.OK)
		writesRevoke(t, 2, l, journal(3, 2, 2, 4, 6), api.OK)
		writesCommit(t, 3, 256, 9, journal(2, 3, 256, 9), api.OK)
		readsDesc(t, journal(1, 2, 2, 5, 0, 9, 1), 2, m, api.OK)
		readsRevoke(t, journal(3, 2, 2, 4, 6), 2, l, api.OK)
	}
}
