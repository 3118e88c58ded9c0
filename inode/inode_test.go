package inode_test

import (
	"encoding/binary"
	"math"
	"testing"

	"quern/api"
	"quern/inode"
)

// places are those of a block.
var places = []int{0, 64, 128, 192}

// noPlaces are some that are none: between two places, below 0, at the block's end and behind it, near the least and the greatest int, and such as are a place in their lowest 8, 16 or 32 bits.
var noPlaces = []int{math.MinInt, math.MinInt + 1, math.MinInt + 63, math.MinInt + 64, math.MinInt + 128, math.MinInt / 2, -1 << 32, -1<<32 + 64, math.MinInt32, -1 << 16, -512, -256, -192, -128, -65, -64, -63, -4, -1,
	1, 2, 3, 4, 16, 31, 32, 33, 48, 60, 62, 63, 65, 66, 96, 124, 127, 129, 160, 191, 193, 224, 240, 252, 255, 256, 257, 319, 320, 384, 448, 512, 576, 1024, 65535, 1 << 16, 1<<16 + 64, math.MaxInt32, 1 << 32, 1<<32 + 64, 1<<32 + 192, 1 << 62, 1<<62 + 64, math.MaxInt - 255, math.MaxInt - 127, math.MaxInt - 63, math.MaxInt - 62, math.MaxInt - 1, math.MaxInt}

// far are numbers that neither Links nor Size may be: near the least and the greatest int, and such as are a good one in their lowest 8, 16, 24 or 32 bits.
var far = []int{math.MinInt, math.MinInt + 1, math.MinInt + 256, math.MinInt / 2, math.MinInt32, -1 << 32, -1<<32 + 1, -1<<32 + 256, -1 << 16, -1<<16 + 1, -1 << 24, -1<<24 + 256, -512, -257, -256, -255, -2, -1,
	1<<24 + 1, 1<<24 + 256, 1 << 25, 1<<31 - 256, 1 << 31, 1<<31 + 1, 1<<32 - 256, 1<<32 - 1, 1 << 32, 1<<32 + 1, 1<<32 + 256, 1<<32 + 1000, 1 << 40, 1 << 62, math.MaxInt - 255, math.MaxInt - 1, math.MaxInt}

var (
	goodLinks = []int{0, 1, 2, 255, 256, 257, 998, 999, 1000}
	badLinks  = append([]int{1001, 1002, 1024, 1256, 4096, 65535, 1 << 16, 1<<16 + 1, 1<<16 + 1000}, far...)
	sizes     = []int{0, 1, 2, 128, 254, 255, 256, 257, 300, 511, 512, 513, 65535, 65536, 1<<24 - 257, 1<<24 - 256, 1<<24 - 255, 1<<24 - 1, 1 << 24}
	longs     = []uint32{0, 1, 2, 7, 255, 256, 257, 2047, 2048, 65535, 1 << 16, 1<<24 - 1, 1 << 24, 1<<31 - 1, 1 << 31, 1<<31 + 1, math.MaxUint32 - 1, math.MaxUint32}
)

func file(links int, gen uint32, size int, next uint32, ptrs ...uint32) api.Inode {
	x := api.Inode{Kind: api.KFile, Links: links, Gen: gen, Size: size, Next: next}
	copy(x.Ptrs[:], ptrs)
	return x
}

func dir(links int, gen uint32, size int, next uint32, ptrs ...uint32) api.Inode {
	x := file(links, gen, size, next, ptrs...)
	x.Kind = api.KDir
	return x
}

func free(gen uint32) api.Inode { return api.Inode{Gen: gen} }

// may tells whether an inode may be, by the document's own words.
func may(x api.Inode) bool {
	sum := uint64(0)
	for _, p := range x.Ptrs {
		sum += uint64(p)
	}
	size := x.Size >= 0 && x.Size <= 16777216
	switch {
	case x.Kind == 0:
		return x.Links == 0 && x.Size == 0 && sum == 0 && x.Next == 0
	case x.Kind == 1:
		return x.Links >= 0 && x.Links <= 1000 && size
	case x.Kind == 2:
		return x.Links == 1 && size && x.Size&255 == 0 && x.Next == 0
	}
	return false
}

// bytesOf are an inode's bytes by the document's table; its numbers are cut short to what fits.
func bytesOf(x api.Inode) [64]byte {
	l := []byte{x.Kind, 0}
	l = binary.LittleEndian.AppendUint16(l, uint16(x.Links))
	l = binary.LittleEndian.AppendUint32(l, x.Gen)
	l = binary.LittleEndian.AppendUint32(l, uint32(x.Size))
	for _, p := range x.Ptrs {
		l = binary.LittleEndian.AppendUint32(l, p)
	}
	l = binary.LittleEndian.AppendUint32(l, x.Next)
	return [64]byte(append(l, 0, 0, 0, 0))
}

// inodeOf is what bytes tell by the document's table, and whether that is an inode which may be.
func inodeOf(m [64]byte) (api.Inode, bool) {
	at := func(i int) uint32 { return binary.LittleEndian.Uint32(m[i:]) }
	x := api.Inode{Kind: m[0], Links: int(m[2]) + 256*int(m[3]), Gen: at(4), Size: int(at(8)), Next: at(56)}
	for i := range x.Ptrs {
		x.Ptrs[i] = at(12 + 4*i)
	}
	if m[1] != 0 || at(60) != 0 || !may(x) {
		return api.Inode{}, false
	}
	return x, true
}

// with is the block with these bytes at the place.
func with(b api.Block, at int, m [64]byte) api.Block {
	copy(b[at:at+64], m[:])
	return b
}

// grounds are blocks in which inodes are put: noughts, ones, and one whose bytes all differ.
func grounds() []api.Block {
	var ones, all api.Block
	for i := range ones {
		ones[i], all[i] = 255, byte(i*7+3)
	}
	return []api.Block{{}, ones, all}
}

// good are inodes that may be: each number at its bounds, alone and with others.
func good() []api.Inode {
	l := []api.Inode{{}, file(0, 0, 0, 0), dir(1, 0, 0, 0), file(1000, math.MaxUint32, 1<<24, math.MaxUint32, 1, 2, 3, 4, 5, 6, 7, 8, 9, 10, 11)}
	for _, v := range goodLinks {
		l = append(l, file(v, 3, 300, 5, 9), file(v, 0, 0, 0))
	}
	for _, v := range sizes {
		l = append(l, file(2, 3, v, 5, 9), file(0, 0, v, 0))
		if v%256 == 0 {
			l = append(l, dir(1, 3, v, 0, 9), dir(1, 0, v, 0))
		}
	}
	for _, v := range longs {
		l = append(l, free(v), file(1, v, 0, 0), dir(1, v, 256, 0), file(1, 0, 0, v), file(0, v, 1, v, v, v, v, v, v, v, v, v, v, v, v))
		for i := range 11 {
			x, y := file(1, 0, 0, 0), dir(1, 0, 0, 0)
			x.Ptrs[i], y.Ptrs[i] = v, v
			l = append(l, x, y)
		}
	}
	return l
}

// bad are inodes that may not be: those above with one thing turned wrong.
func bad() []api.Inode {
	var l []api.Inode
	add := func(x api.Inode, change func(*api.Inode)) {
		if change(&x); !may(x) {
			l = append(l, x)
		}
	}
	for _, x := range good() {
		for _, kind := range []uint8{0, 1, 2, 3, 4, 127, 128, 129, 130, 254, 255} {
			add(x, func(x *api.Inode) { x.Kind = kind })
		}
	}
	for _, x := range []api.Inode{free(0), free(9), file(2, 3, 300, 5, 9), file(0, 0, 0, 0), dir(1, 0, 0, 0), dir(1, 7, 512, 0, 8, 9)} {
		for _, v := range append(badLinks, goodLinks...) {
			add(x, func(x *api.Inode) { x.Links = v })
		}
		for _, v := range append(sizes, far...) {
			add(x, func(x *api.Inode) { x.Size = v })
		}
		for _, v := range longs {
			add(x, func(x *api.Inode) { x.Next = v })
			for i := range 11 {
				add(x, func(x *api.Inode) { x.Ptrs[i] = v })
			}
		}
	}
	return l
}

// puts holds what comes of putting an inode into each of the grounds.
func puts(t *testing.T, at int, x api.Inode, e api.Errno) {
	t.Helper()
	for _, was := range grounds() {
		b, want := was, was
		if e == api.OK {
			want = with(was, at, bytesOf(x))
		}
		if got := inode.Put(&b, at, x); got != e || b != want {
			t.Fatalf("Put at %d of %v: %d, not %d; %v, not %v", at, x, got, e, b, want)
		}
	}
}

// gets holds what is got of a block.
func gets(t *testing.T, b api.Block, at int, want api.Inode, e api.Errno) {
	t.Helper()
	if x, got := inode.Get(b, at); x != want || got != e {
		t.Fatalf("Get at %d of %v: %v %d, not %v %d", at, b, x, got, want, e)
	}
}

// getsBytes holds what is got of these bytes, at each place of each of the grounds.
func getsBytes(t *testing.T, m [64]byte, want api.Inode, e api.Errno) {
	t.Helper()
	for _, at := range places {
		for _, was := range grounds() {
			gets(t, with(was, at, m), at, want, e)
		}
	}
}

// Examples of the chapter.
func TestExamples(t *testing.T) {
	x := file(2, 3, 300, 5, 9, 0, 0, 0, 0, 0, 0, 0, 0, 0, 7)
	var m [64]byte
	copy(m[:], []byte{1, 0, 2, 0, 3, 0, 0, 0, 44, 1, 0, 0, 9, 0, 0, 0})
	copy(m[52:], []byte{7, 0, 0, 0, 5, 0, 0, 0})
	var b api.Block
	if e := inode.Put(&b, 64, x); e != api.OK || b != with(api.Block{}, 64, m) {
		t.Errorf("%d %v", e, b)
	}
	gets(t, b, 64, x, api.OK)
	for _, at := range []int{32, -64, 256} {
		puts(t, at, x, api.ErrArg)
	}
	if e := inode.Put(nil, 64, x); e != api.ErrNil {
		t.Errorf("%d", e)
	}
	for _, c := range []struct {
		x    api.Inode
		want bool
	}{{free(9), true}, {api.Inode{Size: 1}, false}, {dir(1, 0, 256, 0), true}, {dir(1, 0, 255, 0), false}, {dir(2, 0, 256, 0), false}, {file(1001, 0, 0, 0), false}, {file(1, 0, 1<<24+1, 0), false}, {api.Inode{Kind: 3}, false}} {
		if inode.May(c.x) != c.want {
			t.Errorf("%v", c.x)
		}
	}
	gets(t, api.Block{}, 0, api.Inode{}, api.OK)
	gets(t, api.Block{1: 1}, 0, api.Inode{}, api.ErrInode)
	gets(t, api.Block{63: 1}, 0, api.Inode{}, api.ErrInode)
}

// P7.1, P7.2, P7.3: each inode at its bounds is put into each place, all other bytes stay, and it is got again.
func TestGood(t *testing.T) {
	for _, x := range good() {
		if !may(x) || !inode.May(x) {
			t.Fatalf("%v may be", x)
		}
		for _, at := range places {
			puts(t, at, x, api.OK)
		}
		getsBytes(t, bytesOf(x), x, api.OK)
	}
}

// P7.1, P7.2, P0.3, P0.5: each inode that may not be is refused, the block stays; so are its bytes, if its numbers fit there.
func TestBad(t *testing.T) {
	for _, x := range bad() {
		if inode.May(x) {
			t.Fatalf("%v may not be", x)
		}
		for _, at := range places {
			puts(t, at, x, api.ErrInode)
		}
		if x.Links >= 0 && x.Links < 1<<16 && x.Size >= 0 && x.Size < 1<<32 {
			getsBytes(t, bytesOf(x), api.Inode{}, api.ErrInode)
		}
	}
}

// P7.1: every number of Links, and every Size up to some blocks and around the most.
func TestEachNumber(t *testing.T) {
	for v := -300; v < 70000; v++ {
		for _, x := range []api.Inode{file(v, 1, 0, 0), dir(v, 1, 0, 0), {Links: v}, file(1, 0, v, 0), dir(1, 0, v, 0), {Size: v}, file(1, 0, 1<<24-35000+v, 0), dir(1, 0, 1<<24-35000+v, 0)} {
			if inode.May(x) != may(x) {
				t.Fatalf("%v: %t", x, !may(x))
			}
		}
	}
}

// P7.1: every Kind, with all else 0, and with what a file or a directory may have.
func TestEachKind(t *testing.T) {
	for kind := range 256 {
		for _, x := range []api.Inode{{}, free(1), file(1, 0, 0, 0), file(0, 0, 0, 0), file(1000, 1, 1<<24, 1, 1), dir(1, 0, 256, 0)} {
			x.Kind = uint8(kind)
			if inode.May(x) != may(x) {
				t.Errorf("%v: %t", x, !may(x))
			}
		}
	}
}

// P7.1, P7.2, P0.1, P0.2, P0.3, P0.5: a place that is none comes ahead of an inode that may not be, and no block ahead of both.
func TestOrder(t *testing.T) {
	inodes := []api.Inode{free(0), file(2, 3, 300, 5, 9), {Kind: 3}, {Size: 1}, file(-1, 0, -1, 0), dir(0, 0, 1, 9), file(1001, 0, 0, 0)}
	for _, x := range inodes {
		for _, at := range noPlaces {
			puts(t, at, x, api.ErrArg)
			if e := inode.Put(nil, at, x); e != api.ErrNil {
				t.Errorf("no block, at %d: %d", at, e)
			}
			for _, b := range grounds() {
				gets(t, b, at, api.Inode{}, api.ErrArg)
			}
		}
		for _, at := range places {
			if e := inode.Put(nil, at, x); e != api.ErrNil {
				t.Errorf("no block, at %d: %d", at, e)
			}
		}
	}
}

// P7.1, P7.2, P0.5: of all places from far below a block to far behind it, four are places.
func TestEachPlace(t *testing.T) {
	x := file(2, 3, 300, 5, 9)
	for at := -1100; at < 1100; at++ {
		e := api.ErrArg
		for _, p := range places {
			if at == p {
				e = api.OK
			}
		}
		puts(t, at, x, e)
		gets(t, api.Block{}, at, api.Inode{}, e)
	}
}

// P7.2, P7.3: bytes that differ in one from those of an inode, with each value: they are refused, or tell another inode, which is put as just those bytes.
func TestOneByte(t *testing.T) {
	for _, x := range []api.Inode{free(0), free(9), file(0, 0, 0, 0), file(2, 3, 300, 5, 9), file(1000, math.MaxUint32, 1<<24, 7, 1, 2, 3, 4, 5, 6, 7, 8, 9, 10, 11), dir(1, 1, 256, 0, 46), dir(1, 0, 1<<24, 0)} {
		was := bytesOf(x)
		for i := range was {
			for v := range 256 {
				m := was
				m[i] = byte(v)
				want, ok := inodeOf(m)
				e := api.OK
				if !ok {
					e = api.ErrInode
				}
				getsBytes(t, m, want, e)
				if ok {
					puts(t, 64*(v%4), want, api.OK)
				}
			}
		}
	}
}

// P7.2: the bytes that must be noughts, each alone and together, in inodes of each kind.
func TestNoughts(t *testing.T) {
	for _, x := range []api.Inode{free(0), free(7), file(1, 1, 1, 1, 1), dir(1, 1, 256, 0, 1)} {
		for _, l := range [][]int{{1}, {60}, {61}, {62}, {63}, {1, 60}, {60, 61, 62, 63}, {1, 63}} {
			for _, v := range []byte{1, 2, 16, 127, 128, 255} {
				m := bytesOf(x)
				for _, i := range l {
					m[i] = v
				}
				getsBytes(t, m, api.Inode{}, api.ErrInode)
			}
		}
	}
}

// P7.3: inodes at two places of a block tell nothing of one another, whatever stands at the others.
func TestNeighbours(t *testing.T) {
	l := []api.Inode{free(0), free(math.MaxUint32), file(1000, math.MaxUint32, 1<<24, math.MaxUint32, 1, 2, 3, 4, 5, 6, 7, 8, 9, 10, math.MaxUint32), dir(1, 4, 512, 0, 9, 8)}
	for _, was := range grounds() {
		for _, first := range places {
			for _, second := range places {
				for _, x := range l {
					for _, y := range l {
						b := was
						inode.Put(&b, first, x)
						inode.Put(&b, second, y)
						want := with(with(was, first, bytesOf(x)), second, bytesOf(y))
						if b != want {
							t.Fatalf("%v at %d, %v at %d: %v", x, first, y, second, b)
						}
						gets(t, b, second, y, api.OK)
						if first != second {
							gets(t, b, first, x, api.OK)
						}
					}
				}
			}
		}
	}
}

// P7.3: an inode that is put where another one was leaves nothing of it.
func TestOver(t *testing.T) {
	for _, x := range good() {
		b := grounds()[2]
		want := with(b, 128, bytesOf(free(1)))
		if e := inode.Put(&b, 128, x); e != api.OK {
			t.Fatalf("%v: %d", x, e)
		}
		if e := inode.Put(&b, 128, free(1)); e != api.OK || b != want {
			t.Fatalf("%v: %v", x, b)
		}
	}
}

// P7.3: bytes of all kinds are got as the document's table has it, and what is got is put as just those bytes.
func TestAnyBytes(t *testing.T) {
	seed := uint32(1)
	next := func(n int) int {
		seed = seed*1664525 + 1013904223
		return int(seed>>8) % n
	}
	l := good()
	read := 0
	for range 100000 {
		m := bytesOf(l[next(len(l))])
		for range next(4) {
			m[next(64)] = byte(next(4) * next(86))
		}
		at := places[next(4)]
		b := with(grounds()[2], at, m)
		want, ok := inodeOf(m)
		if !ok {
			gets(t, b, at, api.Inode{}, api.ErrInode)
			continue
		}
		read++
		gets(t, b, at, want, api.OK)
		puts(t, at, want, api.OK)
	}
	if read < 1000 || read > 99000 {
		t.Errorf("%d of 100000 were got", read)
	}
}

// P7.3, P0.3: 64 noughts are a KFree inode with Gen 0; what was refused ahead is not to be told later.
func TestNothingKept(t *testing.T) {
	b := grounds()[1]
	inode.Put(&b, 0, api.Inode{Kind: 3})
	inode.Put(&b, 32, free(5))
	inode.Get(b, 0)
	for _, at := range places {
		gets(t, api.Block{}, at, api.Inode{}, api.OK)
		puts(t, at, api.Inode{}, api.OK)
	}
	gets(t, b, 0, api.Inode{}, api.ErrInode)
}
