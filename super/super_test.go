package super_test

import (
	"encoding/binary"
	"hash/crc32"
	"math"
	"slices"
	"testing"

	"quern/api"
	"quern/super"
)

// example is the chapter's G.
var example = geom(2, 16, 8, 40)

// far are numbers that no part of a geometry or of a descriptor may be: near the least and the greatest int, and such as are a good one in their lowest 8, 16 or 32 bits.
var far = []int{math.MinInt, math.MinInt + 1, math.MinInt + 40, math.MinInt / 2, math.MinInt32, -1 << 32, -1 << 16, -1<<16 + 1, -512, -256, -255, -64, -40, -16, -8, -2, -1,
	65535, 1 << 16, 1<<16 + 1, 1<<16 + 8, 1<<16 + 16, 1<<16 + 40, 1<<32 - 1, 1 << 32, 1<<32 + 1, 1<<32 + 8, 1<<32 + 16, 1<<32 + 40, 1 << 62, math.MaxInt32, math.MaxInt - 8, math.MaxInt - 1, math.MaxInt}

func geom(groups, size, inodes, journal int) api.Geo {
	return api.Geo{Groups: groups, Size: size, Inodes: inodes, Journal: journal}
}

func desc(blocks, inodes, dirs int) api.Desc {
	return api.Desc{Blocks: blocks, Inodes: inodes, Dirs: dirs}
}

// may tells whether a geometry may be, by the document's own numbers; where a sum or a product is made, what goes in is known to be small.
func may(g api.Geo) bool {
	if g.Groups < 1 || g.Groups > 4 || g.Size < 16 || g.Size > 512 || g.Journal < 40 || g.Journal > 256 || g.Inodes < 4 || g.Inodes > 64 {
		return false
	}
	return g.Inodes%4 == 0 && g.Size >= 3+g.Inodes/4 && 2+g.Journal+g.Groups*g.Size <= 2048
}

func inodes(g api.Geo) int { return g.Groups * g.Inodes }

func data(g api.Geo) int { return g.Size - 2 - g.Inodes/4 }

// mayDesc tells whether a descriptor may be, by a geometry that may be; its numbers are added as floats, which don't wrap round.
func mayDesc(g api.Geo, d api.Desc) bool {
	return d.Blocks >= 0 && d.Blocks <= data(g) && d.Inodes >= 0 && d.Dirs >= 0 && float64(d.Inodes)+float64(d.Dirs) <= float64(g.Inodes)
}

// sealed is a block with these bytes, and its sum.
func sealed(l ...byte) api.Block {
	var b api.Block
	copy(b[:252], l)
	binary.LittleEndian.PutUint32(b[252:], crc32.ChecksumIEEE(b[:252]))
	return b
}

// resealed is the block with its sum made right again.
func resealed(b api.Block) api.Block { return sealed(b[:252]...) }

func long(b []byte, v uint32) []byte { return binary.LittleEndian.AppendUint32(b, v) }

func short(b []byte, v int) []byte { return binary.LittleEndian.AppendUint16(b, uint16(v)) }

// superBlock is a superblock by the document's own words.
func superBlock(s api.Super) api.Block {
	b := []byte{0x51, 0x52, 0x4E, 0x31, 1, 0, 0, 1}
	for _, v := range []int{s.Geo.Groups, s.Geo.Size, s.Geo.Inodes, s.Geo.Journal} {
		b = short(b, v)
	}
	return sealed(long(b, s.Orphan)...)
}

// descsBlock is a block of descriptors by the document's own words.
func descsBlock(l []api.Desc) api.Block {
	var b []byte
	for _, d := range l {
		b = short(short(short(short(b, d.Blocks), d.Inodes), d.Dirs), 0)
	}
	return sealed(b...)
}

// samples are geometries that may be: the bounds of each number, those beside them, and some between.
func samples() []api.Geo {
	var l []api.Geo
	for groups := 1; groups <= 4; groups++ {
		for _, size := range []int{16, 17, 19, 255, 256, 257, 447, 500, 511, 512} {
			for _, inodes := range []int{4, 8, 12, 52, 60, 64} {
				for _, journal := range []int{40, 41, 46, 100, 255, 256} {
					if g := (api.Geo{Groups: groups, Size: size, Inodes: inodes, Journal: journal}); may(g) {
						l = append(l, g)
					}
				}
			}
		}
	}
	return l
}

// few are some of them: the least and the greatest of each number, with 2048 blocks too.
func few() []api.Geo {
	return []api.Geo{example, geom(1, 16, 4, 40), geom(1, 512, 64, 256), geom(4, 447, 64, 256), geom(4, 448, 8, 254), geom(3, 19, 64, 41), geom(4, 16, 52, 40), geom(2, 257, 12, 255)}
}

// bad are geometries that may not be: each number of one that may be otherwise, one beyond its bound or far away; and such as may not be as a whole.
func bad() []api.Geo {
	l := []api.Geo{{}, geom(1, 18, 64, 40), geom(2, 16, 56, 40), geom(4, 500, 8, 47), geom(4, 512, 64, 256), geom(65535, 65535, 65535, 65535)}
	for _, g := range few() {
		for _, v := range append([]int{0, 1, 2, 3, 5, 6, 10, 15, 39, 63, 65, 66, 68, 257, 513, 1024, 4096}, far...) {
			l = append(l, geom(v, g.Size, g.Inodes, g.Journal), geom(g.Groups, v, g.Inodes, g.Journal),
				geom(g.Groups, g.Size, v, g.Journal), geom(g.Groups, g.Size, g.Inodes, v))
		}
	}
	return slices.DeleteFunc(l, may)
}

// fits tells whether each number of a geometry has 16 bits.
func fits(g api.Geo) bool {
	for _, v := range []int{g.Groups, g.Size, g.Inodes, g.Journal} {
		if v < 0 || v > 65535 {
			return false
		}
	}
	return true
}

// rows are rows of descriptors that may be: noughts, the most of all, each number alone in each group, and all of them otherwise.
func rows(g api.Geo) [][]api.Desc {
	l := [][]api.Desc{make([]api.Desc, g.Groups), nil, nil, nil}
	for k := range g.Groups {
		for i, d := range []api.Desc{desc(data(g), g.Inodes, 0), desc(data(g), 0, g.Inodes), desc(k%(data(g)+1), g.Inodes-k, k)} {
			l[i+1] = append(l[i+1], d)
		}
		for _, d := range []api.Desc{desc(1, 0, 0), desc(data(g), 0, 0), desc(0, 1, 0), desc(0, g.Inodes, 0), desc(0, 0, 1), desc(0, 0, g.Inodes), desc(0, g.Inodes-1, 1), desc(0, 1, g.Inodes-1), desc(data(g), g.Inodes/2, g.Inodes/2)} {
			row := make([]api.Desc, g.Groups)
			row[k] = d
			l = append(l, row)
		}
	}
	return l
}

// wrong are descriptors that may not be.
func wrong(g api.Geo) []api.Desc {
	l := []api.Desc{desc(data(g)+1, 0, 0), desc(-1, 0, 0), desc(0, -1, 0), desc(0, 0, -1), desc(0, -1, 1), desc(0, 1, -1), desc(-1, -1, -1),
		desc(0, g.Inodes+1, 0), desc(0, 0, g.Inodes+1), desc(0, g.Inodes, 1), desc(0, 1, g.Inodes), desc(0, g.Inodes-1, 2), desc(0, 2, g.Inodes-1), desc(0, g.Inodes, g.Inodes),
		desc(g.Size, 0, 0), desc(0, math.MaxInt, math.MaxInt), desc(0, math.MaxInt, 1), desc(0, 1, math.MaxInt), desc(0, math.MinInt, math.MinInt), desc(0, math.MinInt, math.MaxInt), desc(0, math.MaxInt, math.MinInt),
		desc(0, 256, 0), desc(0, 0, 256), desc(512, 0, 0)}
	for _, v := range far {
		l = append(l, desc(v, 0, 0), desc(0, v, 0), desc(0, 0, v), desc(0, v, 1), desc(0, 1, v), desc(0, v, -v), desc(0, v, v))
	}
	return slices.DeleteFunc(l, func(d api.Desc) bool { return mayDesc(g, d) })
}

// writes holds what comes of writing a superblock.
func writes(t *testing.T, s api.Super, want api.Block, e api.Errno) {
	t.Helper()
	if b, got := super.Write(s); b != want || got != e {
		t.Fatalf("Write of %v: %v %d, not %v %d", s, b, got, want, e)
	}
}

// reads holds what comes of reading a superblock.
func reads(t *testing.T, b api.Block, want api.Super, e api.Errno) {
	t.Helper()
	if s, got := super.Read(b); s != want || got != e {
		t.Fatalf("Read of %v: %v %d, not %v %d", b, s, got, want, e)
	}
}

// writesDescs holds what comes of writing descriptors.
func writesDescs(t *testing.T, g api.Geo, l []api.Desc, want api.Block, e api.Errno) {
	t.Helper()
	if b, got := super.WriteDescs(g, l); b != want || got != e {
		t.Fatalf("%v: WriteDescs of %v: %v %d, not %v %d", g, l, b, got, want, e)
	}
}

// readsDescs holds what comes of reading descriptors.
func readsDescs(t *testing.T, g api.Geo, b api.Block, want []api.Desc, e api.Errno) {
	t.Helper()
	if l, got := super.ReadDescs(g, b); !slices.Equal(l, want) || got != e {
		t.Fatalf("%v: ReadDescs of %v: %v %d, not %v %d", g, b, l, got, want, e)
	}
}

// Examples of the chapter.
func TestExamples(t *testing.T) {
	s := api.Super{Geo: example, Orphan: 7}
	b := sealed(81, 82, 78, 49, 1, 0, 0, 1, 2, 0, 16, 0, 8, 0, 40, 0, 7, 0, 0, 0)
	writes(t, s, b, api.OK)
	reads(t, b, s, api.OK)
	writes(t, api.Super{Geo: example, Orphan: 17}, api.Block{}, api.ErrArg)
	writes(t, api.Super{Geo: geom(2, 16, 8, 39), Orphan: 7}, api.Block{}, api.ErrGeo)
	reads(t, api.Block{}, api.Super{}, api.ErrSuper)
	b[16] = 8
	reads(t, b, api.Super{}, api.ErrSuper)

	l := []api.Desc{desc(12, 7, 1), desc(12, 8, 0)}
	b = sealed(12, 0, 7, 0, 1, 0, 0, 0, 12, 0, 8, 0)
	writesDescs(t, example, l, b, api.OK)
	readsDescs(t, example, b, l, api.OK)
	for _, l := range [][]api.Desc{{desc(12, 7, 1)}, {desc(13, 7, 1), desc(12, 8, 0)}, {desc(12, 7, 2), desc(12, 8, 0)}} {
		writesDescs(t, example, l, api.Block{}, api.ErrArg)
	}
}

// P6.1, P6.2, P6.4: of each geometry at its bounds, and each orphan: none, the first and the last inode, and one more.
func TestSuper(t *testing.T) {
	for _, g := range samples() {
		n := uint32(inodes(g))
		for _, orphan := range []uint32{0, 1, 2, n / 2, n - 1, n} {
			s := api.Super{Geo: g, Orphan: orphan}
			b := superBlock(s)
			writes(t, s, b, api.OK)
			reads(t, b, s, api.OK)
		}
		for _, orphan := range []uint32{n + 1, n + 2, 2*n + 1, 257, 1 << 10, 1 << 16, 1<<16 + 1, 1 << 24, 1 << 31, 1<<31 + 1, math.MaxUint32 - 1, math.MaxUint32} {
			s := api.Super{Geo: g, Orphan: orphan}
			writes(t, s, api.Block{}, api.ErrArg)
			reads(t, superBlock(s), api.Super{}, api.ErrSuper)
		}
	}
}

// P6.1, P6.4: every orphan there may be, and all numbers up to far behind the last one.
func TestEachOrphan(t *testing.T) {
	for _, g := range few() {
		for orphan := range uint32(600) {
			s := api.Super{Geo: g, Orphan: orphan}
			b := superBlock(s)
			if int(orphan) <= inodes(g) {
				writes(t, s, b, api.OK)
				reads(t, b, s, api.OK)
			} else {
				writes(t, s, api.Block{}, api.ErrArg)
				reads(t, b, api.Super{}, api.ErrSuper)
			}
		}
	}
}

// P6.1, P6.2, P0.1, P0.2, P0.5: a geometry that may not be comes first, whatever the orphan; also one whose numbers don't fit, or would do so when cut short.
func TestBadGeometry(t *testing.T) {
	for _, g := range bad() {
		for _, orphan := range []uint32{0, 1, 9, 300, math.MaxUint32} {
			s := api.Super{Geo: g, Orphan: orphan}
			writes(t, s, api.Block{}, api.ErrGeo)
			if fits(g) {
				reads(t, superBlock(s), api.Super{}, api.ErrGeo)
			}
		}
		for _, l := range [][]api.Desc{nil, {}, {{}}, {{}, {}}, {desc(12, 7, 1), desc(12, 8, 0)}, {desc(-1, -1, -1)}, make([]api.Desc, 3), make([]api.Desc, 4), make([]api.Desc, 40)} {
			writesDescs(t, g, l, api.Block{}, api.ErrGeo)
			readsDescs(t, g, descsBlock(l), nil, api.ErrGeo)
		}
		b := descsBlock(make([]api.Desc, 2))
		b[252]++
		readsDescs(t, g, b, nil, api.ErrGeo)
		readsDescs(t, g, api.Block{}, nil, api.ErrGeo)
	}
}

// wantRead is what a block that differs from one that was written is to be read as, if its sum is right.
func wantRead(b api.Block) (api.Super, api.Errno) {
	for i, x := range []byte{81, 82, 78, 49, 1, 0, 0, 1} {
		if b[i] != x {
			return api.Super{}, api.ErrSuper
		}
	}
	for _, x := range b[20:252] {
		if x != 0 {
			return api.Super{}, api.ErrSuper
		}
	}
	at := func(i int) int { return int(binary.LittleEndian.Uint16(b[i:])) }
	s := api.Super{Geo: geom(at(8), at(10), at(12), at(14)), Orphan: binary.LittleEndian.Uint32(b[16:])}
	switch {
	case !may(s.Geo):
		return api.Super{}, api.ErrGeo
	case int(s.Orphan) > inodes(s.Geo):
		return api.Super{}, api.ErrSuper
	}
	return s, api.OK
}

// wantDescs likewise.
func wantDescs(g api.Geo, b api.Block) ([]api.Desc, api.Errno) {
	var l []api.Desc
	for i := range b[:252] {
		in, at := i/8 < g.Groups, i%8
		if b[i] != 0 && (!in || at > 5) {
			return nil, api.ErrSuper
		}
		if in && at == 0 {
			d := desc(int(b[i])+256*int(b[i+1]), int(b[i+2])+256*int(b[i+3]), int(b[i+4])+256*int(b[i+5]))
			if !mayDesc(g, d) {
				return nil, api.ErrSuper
			}
			l = append(l, d)
		}
	}
	return l, api.OK
}

// others goes through the blocks that differ from one in one byte, with each value that the byte hasn't.
func others(b api.Block, each func(at int, o api.Block)) {
	for at := range b {
		for x := range 256 {
			if o := b; byte(x) != b[at] {
				o[at] = byte(x)
				each(at, o)
			}
		}
	}
}

// P6.2, P6.5: each byte of a superblock with each other value is refused; with the sum made right too, just as the document says for it.
func TestSuperOneByte(t *testing.T) {
	for _, g := range few()[:4] {
		for _, orphan := range []uint32{0, 7} {
			b, _ := super.Write(api.Super{Geo: g, Orphan: min(orphan, uint32(inodes(g)))})
			others(b, func(at int, o api.Block) {
				reads(t, o, api.Super{}, api.ErrSuper)
				if at < 252 {
					o = resealed(o)
					s, e := wantRead(o)
					reads(t, o, s, e)
				}
			})
		}
	}
}

// P6.3, P6.5: the same of descriptors.
func TestDescsOneByte(t *testing.T) {
	for _, g := range few()[:4] {
		for _, l := range rows(g)[2:4] {
			b, e := super.WriteDescs(g, l)
			if e != api.OK {
				t.Fatalf("%v: %v: %d", g, l, e)
			}
			others(b, func(at int, o api.Block) {
				readsDescs(t, g, o, nil, api.ErrSuper)
				if at < 252 {
					o = resealed(o)
					l, e := wantDescs(g, o)
					readsDescs(t, g, o, l, e)
				}
			})
		}
	}
}

// P6.2, P0.2: which error comes first where several things are wrong.
func TestReadOrder(t *testing.T) {
	off := api.Super{Geo: geom(2, 16, 8, 39), Orphan: 99}
	reads(t, superBlock(off), api.Super{}, api.ErrGeo)
	for at := range 252 {
		b := superBlock(off)
		if at >= 8 && at < 20 {
			continue
		}
		b[at] ^= 0x40
		reads(t, b, api.Super{}, api.ErrSuper)
		reads(t, resealed(b), api.Super{}, api.ErrSuper)
	}
	for at := 252; at < 256; at++ {
		b := superBlock(off)
		b[at] ^= 1
		reads(t, b, api.Super{}, api.ErrSuper)
	}
	// Bytes that make up for each other in a sum of another kind, and two that are turned round.
	b := superBlock(api.Super{Geo: example, Orphan: 7})
	b[100], b[101] = 1, 255
	reads(t, b, api.Super{}, api.ErrSuper)
	reads(t, resealed(b), api.Super{}, api.ErrSuper)
	b = superBlock(api.Super{Geo: example, Orphan: 7})
	b[8], b[9], b[10], b[11] = b[9], b[8], b[11], b[10]
	reads(t, b, api.Super{}, api.ErrSuper)
	reads(t, resealed(b), api.Super{}, api.ErrGeo)
}

// P6.2, P6.3: noughts, with and without their sum; all bits set; a superblock read as descriptors, and descriptors as a superblock.
func TestOtherBlocks(t *testing.T) {
	var ones api.Block
	for i := range ones {
		ones[i] = 255
	}
	for _, b := range []api.Block{{}, sealed(), ones, resealed(ones), sealed(81, 82, 78, 49), sealed(81, 82, 78, 49, 1, 0, 0, 1, 2, 0, 16, 0, 8, 0, 40, 0, 7)} {
		s, e := wantRead(b)
		if b != resealed(b) {
			s, e = api.Super{}, api.ErrSuper
		}
		reads(t, b, s, e)
	}
	for _, g := range samples() {
		n := uint32(inodes(g))
		for _, orphan := range []uint32{0, n} {
			readsDescs(t, g, superBlock(api.Super{Geo: g, Orphan: orphan}), nil, api.ErrSuper)
		}
		for _, b := range []api.Block{{}, ones, resealed(ones)} {
			readsDescs(t, g, b, nil, api.ErrSuper)
		}
		readsDescs(t, g, sealed(), make([]api.Desc, g.Groups), api.OK)
		for _, l := range rows(g)[:4] {
			reads(t, descsBlock(l), api.Super{}, api.ErrSuper)
		}
	}
}

// P6.1, P6.3, P6.4: of each geometry at its bounds rows that may be, in each group: Blocks 0 and Data, Inodes and Dirs together at the most.
func TestDescs(t *testing.T) {
	for _, g := range samples() {
		for _, l := range rows(g) {
			b := descsBlock(l)
			writesDescs(t, g, l, b, api.OK)
			readsDescs(t, g, b, l, api.OK)
		}
	}
}

// P6.1, P6.3, P0.1, P0.2, P0.5: a descriptor that may not be, in each group alone and among others that may.
func TestWrongDescs(t *testing.T) {
	for _, g := range few() {
		for _, d := range wrong(g) {
			for k := range g.Groups {
				for _, l := range rows(g)[:2] {
					l[k] = d
					writesDescs(t, g, l, api.Block{}, api.ErrArg)
					if b := descsBlock(l); max(d.Blocks, d.Inodes, d.Dirs) < 1<<16 && min(d.Blocks, d.Inodes, d.Dirs) >= 0 {
						readsDescs(t, g, b, nil, api.ErrSuper)
					}
				}
			}
		}
	}
}

// P6.1, P6.3: every number of Blocks, and every pair of Inodes and Dirs, up to behind the most.
func TestEachDesc(t *testing.T) {
	for _, g := range few() {
		l := make([]api.Desc, g.Groups)
		holds := func(d api.Desc) {
			t.Helper()
			l[g.Groups-1] = d
			b := descsBlock(l)
			if mayDesc(g, d) {
				writesDescs(t, g, l, b, api.OK)
				readsDescs(t, g, b, l, api.OK)
				return
			}
			writesDescs(t, g, l, api.Block{}, api.ErrArg)
			readsDescs(t, g, b, nil, api.ErrSuper)
		}
		for blocks := range 600 {
			holds(api.Desc{Blocks: blocks})
		}
		for in := range g.Inodes + 3 {
			for dirs := range g.Inodes + 3 {
				holds(api.Desc{Inodes: in, Dirs: dirs})
			}
		}
	}
}

// P6.1, P6.3, P0.1, P0.4: lists that are nil, empty, too short and too long; a block of other many groups is read as such a list would be.
func TestHowManyDescs(t *testing.T) {
	for _, g := range samples() {
		writesDescs(t, g, nil, api.Block{}, api.ErrArg)
		for n := range 40 {
			if l := make([]api.Desc, n); n != g.Groups {
				writesDescs(t, g, l, api.Block{}, api.ErrArg)
			} else {
				writesDescs(t, g, l, sealed(), api.OK)
			}
		}
		for n := 1; n <= 31; n++ {
			l := make([]api.Desc, n)
			l[n-1] = desc(0, 1, 1)
			if n > g.Groups {
				readsDescs(t, g, descsBlock(l), nil, api.ErrSuper)
				continue
			}
			whole := make([]api.Desc, g.Groups)
			copy(whole, l)
			readsDescs(t, g, descsBlock(l), whole, api.OK)
		}
	}
}

// P6.2 to P6.4: of blocks with bytes here and there and a right sum, what is read is written as just that block, and what is refused is refused for what the document says.
func TestReadThenWrite(t *testing.T) {
	seed := uint32(1)
	next := func(n int) int {
		seed = seed*1664525 + 1013904223
		return int(seed>>8) % n
	}
	good := 0
	for range 60000 {
		g := few()[next(8)]
		b := superBlock(api.Super{Geo: g, Orphan: uint32(next(inodes(g) + 2))})
		d := descsBlock(rows(g)[next(4)])
		for range next(3) {
			b[8+next(14)] = byte(next(70))
			d[next(8*g.Groups+2)] = byte(next(20))
		}
		b, d = resealed(b), resealed(d)
		s, e := wantRead(b)
		reads(t, b, s, e)
		if e == api.OK {
			writes(t, s, b, api.OK)
			good++
		}
		l, e := wantDescs(g, d)
		readsDescs(t, g, d, l, e)
		if e == api.OK {
			writesDescs(t, g, l, d, api.OK)
			good++
		}
	}
	if good < 1000 || good > 119000 {
		t.Errorf("%d of 120000 were read", good)
	}
}

// P6.4: superblocks and rows of descriptors that differ have blocks that differ.
func TestOneBlockEach(t *testing.T) {
	supers := map[api.Block]api.Super{}
	for _, g := range samples() {
		for orphan := range uint32(5) {
			s := api.Super{Geo: g, Orphan: orphan}
			b, _ := super.Write(s)
			if was, is := supers[b]; is {
				t.Fatalf("%v and %v have one block", was, s)
			}
			supers[b] = s
		}
	}
	descs := map[api.Block]api.Desc{}
	for blocks := range data(example) + 1 {
		for in := range example.Inodes + 1 {
			for dirs := range example.Inodes + 1 - in {
				for k := range 2 {
					d := desc(blocks, in, dirs)
					l := []api.Desc{desc(3, 2, 1), desc(3, 2, 1)}
					l[k] = d
					b, _ := super.WriteDescs(example, l)
					if was, is := descs[b]; is && (d != desc(3, 2, 1)) {
						t.Fatalf("%v and %v in group %d have one block", was, d, k)
					}
					descs[b] = d
				}
			}
		}
	}
}

// P0.3, P0.4: the list that is handed in and the room behind it stay, whether it is written or refused; and a later call knows nothing of it.
func TestListStays(t *testing.T) {
	for _, last := range []api.Desc{desc(12, 8, 0), desc(13, 8, 0)} {
		whole := []api.Desc{desc(12, 7, 1), last, desc(9, 9, 9), desc(8, 8, 8)}
		was := slices.Clone(whole)
		b, e := super.WriteDescs(example, whole[:2])
		super.WriteDescs(example, whole[:1])
		super.WriteDescs(api.Geo{}, whole[:2])
		if !slices.Equal(whole, was) {
			t.Errorf("%v became %v", was, whole)
		}
		writesDescs(t, example, slices.Clone(was[:2]), b, e)
		whole[0] = desc(1, 1, 1)
		if e == api.OK {
			readsDescs(t, example, b, was[:2], api.OK)
		}
	}
}

// P0.4: what is answered is new memory, the room behind it too.
func TestAnswersAreNew(t *testing.T) {
	want := []api.Desc{desc(12, 7, 1), desc(12, 8, 0)}
	b := descsBlock(want)
	first, _ := super.ReadDescs(example, b)
	second, _ := super.ReadDescs(example, b)
	whole := first[:cap(first)]
	for i := range whole {
		whole[i] = desc(99, 99, 99)
	}
	if !slices.Equal(second, want) {
		t.Errorf("%v", second)
	}
	readsDescs(t, example, b, want, api.OK)
}

// P0.2, P0.4: what is refused answers no list at all.
func TestNoListWithAnError(t *testing.T) {
	for _, b := range []api.Block{{}, sealed(13), sealed(0, 0, 9), sealed(0, 0, 0, 0, 0, 0, 1)} {
		if l, e := super.ReadDescs(example, b); l != nil || e != api.ErrSuper {
			t.Errorf("%v %d", l, e)
		}
	}
	if l, e := super.ReadDescs(api.Geo{}, sealed()); l != nil || e != api.ErrGeo {
		t.Errorf("%v %d", l, e)
	}
}
