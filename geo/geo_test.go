package geo_test

import (
	"math"
	"slices"
	"testing"

	"quern/api"
	"quern/geo"
)

// example is the chapter's G.
var example = api.Geo{Groups: 2, Size: 16, Inodes: 8, Journal: 40}

// far are numbers that are no block's, group's, inode's or bit's, and that no part of a geometry may be: near the least and the greatest int, such as wrap round when they are added or multiplied, and such as have a good number's lowest bytes.
var far = []int{math.MinInt, math.MinInt + 1, math.MinInt + 2, math.MinInt + 40, math.MinInt / 2, math.MinInt/4 + 16, math.MinInt32, -1 << 16, -2048, -512, -256, -64, -40, -16, -4, -2, -1,
	4096, 1<<16 + 8, 1<<32 + 1, 1<<32 + 16, 1<<32 + 40, 1 << 60, 1<<61 + 4, 1 << 62, 1<<62 + 16, math.MaxInt32, math.MaxInt - 41, math.MaxInt - 3, math.MaxInt - 2, math.MaxInt - 1, math.MaxInt}

// one is what a block is.
type one struct {
	kind      uint8
	group, at int
}

// may tells whether a geometry may be, by the document's own numbers; where a sum or a product is made, what goes in is known to be small.
func may(g api.Geo) bool {
	switch {
	case g.Groups < 1 || g.Groups > 4, g.Size < 16 || g.Size > 512, g.Journal < 40 || g.Journal > 256:
		return false
	case !slices.Contains([]int{4, 8, 12, 16, 20, 24, 28, 32, 36, 40, 44, 48, 52, 56, 60, 64}, g.Inodes):
		return false
	case g.Size < 3+g.Inodes/4:
		return false
	}
	return 2+g.Journal+g.Groups*g.Size <= 2048
}

// image is an image by the document's own words, block by block.
func image(g api.Geo) []one {
	l := []one{{1, 0, 0}, {2, 0, 0}}
	for i := range g.Journal {
		l = append(l, one{3, 0, i})
	}
	for group := range g.Groups {
		l = append(l, one{4, group, 0}, one{5, group, 1})
		for at := 2; at < g.Size; at++ {
			if at < 2+g.Inodes/4 {
				l = append(l, one{6, group, at})
			} else {
				l = append(l, one{7, group, at})
			}
		}
	}
	return l
}

// home is where an inode stands.
type home struct{ block, place, group, bit int }

// homes are the inodes of an image, from the first one on, as its tables have them one behind the other.
func homes(g api.Geo) []home {
	var l []home
	bits := make([]int, g.Groups)
	for block, o := range image(g) {
		if o.kind != 6 {
			continue
		}
		for _, place := range []int{0, 64, 128, 192} {
			l = append(l, home{block, place, o.group, bits[o.group]})
			bits[o.group]++
		}
	}
	return l
}

// samples are geometries that may be: the bounds of each number, those beside them, and some between.
func samples() []api.Geo {
	var l []api.Geo
	for groups := 1; groups <= 4; groups++ {
		for _, size := range []int{16, 17, 18, 19, 20, 100, 447, 448, 500, 511, 512} {
			for _, inodes := range []int{4, 8, 12, 52, 56, 60, 64} {
				for _, journal := range []int{40, 41, 46, 100, 255, 256} {
					if g := (api.Geo{Groups: groups, Size: size, Inodes: inodes, Journal: journal}); may(g) {
						l = append(l, g)
					}
				}
			}
		}
	}
	return l
}

// bad are geometries that may not be: one beyond each bound; numbers that are far off, one at a time, and in all their pairs and rows of four.
func bad() []api.Geo {
	l := []api.Geo{{}, {Groups: 0, Size: 16, Inodes: 8, Journal: 40}, {Groups: 5, Size: 16, Inodes: 8, Journal: 40},
		{Groups: 2, Size: 15, Inodes: 8, Journal: 40}, {Groups: 1, Size: 513, Inodes: 8, Journal: 40},
		{Groups: 2, Size: 16, Inodes: 0, Journal: 40}, {Groups: 2, Size: 64, Inodes: 68, Journal: 40},
		{Groups: 2, Size: 64, Inodes: 6, Journal: 40}, {Groups: 2, Size: 64, Inodes: 63, Journal: 40},
		{Groups: 2, Size: 16, Inodes: 8, Journal: 39}, {Groups: 2, Size: 16, Inodes: 8, Journal: 257},
		{Groups: 2, Size: 16, Inodes: 56, Journal: 40}, {Groups: 1, Size: 18, Inodes: 64, Journal: 40},
		{Groups: 4, Size: 500, Inodes: 8, Journal: 47}, {Groups: 4, Size: 512, Inodes: 64, Journal: 256}}
	some := []int{math.MinInt, math.MinInt / 4, -1 << 32, -16, -4, 0, 1<<32 + 16, 1<<61 + 4, 1 << 62, math.MaxInt - 3, math.MaxInt - 1, math.MaxInt}
	for _, a := range append([]int{4}, some...) {
		for _, b := range append([]int{16}, some...) {
			for _, c := range append([]int{8}, some...) {
				for _, d := range append([]int{40}, some...) {
					if a != 4 || b != 16 || c != 8 || d != 40 {
						l = append(l, api.Geo{Groups: a, Size: b, Inodes: c, Journal: d})
					}
				}
			}
		}
	}
	for _, v := range far {
		l = append(l, api.Geo{Groups: v, Size: 16, Inodes: 8, Journal: 40}, api.Geo{Groups: 2, Size: v, Inodes: 8, Journal: 40},
			api.Geo{Groups: 2, Size: 64, Inodes: v, Journal: 40}, api.Geo{Groups: 2, Size: 16, Inodes: 8, Journal: v})
	}
	return l
}

func what(g api.Geo, block int) one {
	kind, group, at := geo.What(g, block)
	return one{kind, group, at}
}

// noWhat holds that a geometry has no such block.
func noWhat(t *testing.T, g api.Geo, block int) {
	t.Helper()
	if o := what(g, block); o != (one{}) {
		t.Fatalf("%v: What %d: %v", g, block, o)
	}
}

// noStart holds that a geometry has no such group.
func noStart(t *testing.T, g api.Geo, group int) {
	t.Helper()
	if first, ok := geo.Start(g, group); first != 0 || ok {
		t.Fatalf("%v: Start %d: %d %v", g, group, first, ok)
	}
}

// noInode holds that a geometry has no such inode.
func noInode(t *testing.T, g api.Geo, ino int) {
	t.Helper()
	if block, place, ok := geo.Inode(g, ino); block != 0 || place != 0 || ok {
		t.Fatalf("%v: Inode %d: %d %d %v", g, ino, block, place, ok)
	}
	if group, bit, ok := geo.Home(g, ino); group != 0 || bit != 0 || ok {
		t.Fatalf("%v: Home %d: %d %d %v", g, ino, group, bit, ok)
	}
}

// noNumber holds that a geometry has no such group, or no such bit in it.
func noNumber(t *testing.T, g api.Geo, group, bit int) {
	t.Helper()
	if n := geo.Number(g, group, bit); n != 0 {
		t.Fatalf("%v: Number %d %d: %d", g, group, bit, n)
	}
}

// same holds all that is told of a geometry that may be against the document's own words.
func same(t *testing.T, g api.Geo) {
	t.Helper()
	blocks, inodes := image(g), homes(g)
	if !geo.May(g) || geo.Blocks(g) != len(blocks) || geo.Inodes(g) != len(inodes) || geo.Data(g) != g.Size-2-g.Inodes/4 {
		t.Fatalf("%v: %v, %d blocks, %d inodes, %d data blocks", g, geo.May(g), geo.Blocks(g), geo.Inodes(g), geo.Data(g))
	}
	for block, want := range blocks {
		if o := what(g, block); o != want {
			t.Fatalf("%v: What %d: %v, not %v", g, block, o, want)
		}
		if first, ok := geo.Start(g, want.group); want.kind == 4 && (first != block || !ok) {
			t.Fatalf("%v: Start %d: %d %v, not %d", g, want.group, first, ok, block)
		}
	}
	for i, want := range inodes {
		block, place, ok := geo.Inode(g, i+1)
		group, bit, is := geo.Home(g, i+1)
		if h := (home{block, place, group, bit}); h != want || !ok || !is {
			t.Fatalf("%v: Inode, Home %d: %v %v %v, not %v", g, i+1, h, ok, is, want)
		}
		if n := geo.Number(g, want.group, want.bit); n != i+1 {
			t.Fatalf("%v: Number %d %d: %d, not %d", g, want.group, want.bit, n, i+1)
		}
	}
}

// nothing holds that of a geometry that may not be nothing is told, whatever is asked.
func nothing(t *testing.T, g api.Geo, asked []int) {
	t.Helper()
	if geo.May(g) || geo.Blocks(g) != 0 || geo.Inodes(g) != 0 || geo.Data(g) != 0 {
		t.Fatalf("%v: %v, %d blocks, %d inodes, %d data blocks", g, geo.May(g), geo.Blocks(g), geo.Inodes(g), geo.Data(g))
	}
	for _, v := range asked {
		noWhat(t, g, v)
		noStart(t, g, v)
		noInode(t, g, v)
		for _, bit := range []int{v, 0, 1, -1} {
			noNumber(t, g, v, bit)
			noNumber(t, g, bit, v)
		}
	}
}

// Examples of the chapter.
func TestExamples(t *testing.T) {
	if geo.Blocks(example) != 74 || geo.Inodes(example) != 16 || geo.Data(example) != 12 {
		t.Errorf("%d blocks, %d inodes, %d data blocks", geo.Blocks(example), geo.Inodes(example), geo.Data(example))
	}
	for block, want := range map[int]one{0: {1, 0, 0}, 1: {2, 0, 0}, 2: {3, 0, 0}, 41: {3, 0, 39}, 42: {4, 0, 0}, 43: {5, 0, 1}, 44: {6, 0, 2},
		45: {6, 0, 3}, 46: {7, 0, 4}, 57: {7, 0, 15}, 58: {4, 1, 0}, 73: {7, 1, 15}, 74: {}, -1: {}} {
		if o := what(example, block); o != want {
			t.Errorf("What %d: %v, not %v", block, o, want)
		}
	}
	for group, want := range map[int]int{0: 42, 1: 58, 2: 0, -1: 0} {
		if first, ok := geo.Start(example, group); first != want || ok != (want > 0) {
			t.Errorf("Start %d: %d %v", group, first, ok)
		}
	}
	for ino, want := range map[int]home{1: {44, 0, 0, 0}, 4: {44, 192, 0, 3}, 5: {45, 0, 0, 4}, 8: {45, 192, 0, 7}, 9: {60, 0, 1, 0}, 16: {61, 192, 1, 7}} {
		block, place, ok := geo.Inode(example, ino)
		group, bit, is := geo.Home(example, ino)
		if h := (home{block, place, group, bit}); h != want || !ok || !is {
			t.Errorf("Inode, Home %d: %v %v %v", ino, h, ok, is)
		}
	}
	noInode(t, example, 17)
	noInode(t, example, 0)
	if geo.Number(example, 1, 0) != 9 || geo.Number(example, 0, 8) != 0 {
		t.Errorf("Number 1 0, 0 8: %d, %d", geo.Number(example, 1, 0), geo.Number(example, 0, 8))
	}
}

// Words, Ways: the kinds' own numbers.
func TestKinds(t *testing.T) {
	for want, kind := range []uint8{geo.WNone, geo.WSuper, geo.WDescs, geo.WJournal, geo.WBlockBits, geo.WInodeBits, geo.WTable, geo.WData} {
		if int(kind) != want {
			t.Errorf("kind %d is %d", want, kind)
		}
	}
}

// P5.1: each bound by itself, and one beyond it, on both sides.
func TestMayBounds(t *testing.T) {
	for _, c := range []struct {
		low, high, step int
		with            func(v int) api.Geo
	}{
		{1, 4, 1, func(v int) api.Geo { return api.Geo{Groups: v, Size: 64, Inodes: 8, Journal: 40} }},
		{16, 512, 1, func(v int) api.Geo { return api.Geo{Groups: 1, Size: v, Inodes: 8, Journal: 40} }},
		{4, 64, 4, func(v int) api.Geo { return api.Geo{Groups: 1, Size: 64, Inodes: v, Journal: 40} }},
		{40, 256, 1, func(v int) api.Geo { return api.Geo{Groups: 1, Size: 64, Inodes: 8, Journal: v} }},
	} {
		for v := -c.high; v <= 2*c.high; v++ {
			g := c.with(v)
			want := v >= c.low && v <= c.high && v%c.step == 0
			if geo.May(g) != want || may(g) != want {
				t.Errorf("May %v: not %v", g, want)
			}
		}
	}
}

// P5.1: of each number of inodes the smallest group, with one data block if that is what there is room for; one block less, and it may not be.
func TestSmallestGroup(t *testing.T) {
	for inodes := 4; inodes <= 64; inodes += 4 {
		g := api.Geo{Groups: 1, Size: max(16, 3+inodes/4), Inodes: inodes, Journal: 40}
		same(t, g)
		if left := geo.Data(g); inodes >= 52 && left != 1 || left < 1 {
			t.Errorf("%v: %d data blocks", g, left)
		}
		g.Size--
		nothing(t, g, []int{0, 1, 2, 42, 43})
	}
}

// P5.1, P5.3: of each number of groups, size and number of inodes the greatest journal, so with as many blocks as there may be, if that many can be; one more, and it may not be.
func TestMostBlocks(t *testing.T) {
	full := 0
	for groups := 1; groups <= 4; groups++ {
		for size := 19; size <= 512; size++ {
			journal := min(256, 2046-groups*size)
			g := api.Geo{Groups: groups, Size: size, Inodes: 64, Journal: journal}
			if journal < 40 {
				g.Journal = 40
				nothing(t, g, []int{0, 1, 2, 2047})
				continue
			}
			n := 2 + journal + groups*size
			if !geo.May(g) || geo.Blocks(g) != n || what(g, n-1) != (one{7, groups - 1, size - 1}) || what(g, n) != (one{}) {
				t.Fatalf("%v: %d blocks, not %d; the last one %v", g, geo.Blocks(g), n, what(g, n-1))
			}
			if n == 2048 {
				full++
			}
			g.Journal++
			nothing(t, g, []int{0, 1, 2, 2047})
		}
	}
	if full == 0 {
		t.Error("no geometry with 2048 blocks")
	}
}

// P5.1: whether it may be, of each row of four numbers at the bounds and beside them.
func TestMayCorners(t *testing.T) {
	for groups := -1; groups <= 6; groups++ {
		for _, size := range []int{-16, 0, 1, 14, 15, 16, 17, 18, 19, 20, 447, 448, 449, 476, 477, 500, 501, 502, 503, 510, 511, 512, 513, 514} {
			for inodes := -5; inodes <= 72; inodes++ {
				for _, journal := range []int{-40, 0, 1, 38, 39, 40, 41, 42, 45, 46, 47, 48, 137, 138, 139, 254, 255, 256, 257, 258} {
					g := api.Geo{Groups: groups, Size: size, Inodes: inodes, Journal: journal}
					want := may(g)
					if geo.May(g) != want || (geo.Blocks(g) > 0) != want || (geo.Inodes(g) > 0) != want || (geo.Data(g) > 0) != want {
						t.Fatalf("%v: not %v", g, want)
					}
				}
			}
		}
	}
}

// P5.1: how many there are, of each number of groups, size, and number of inodes.
func TestCounts(t *testing.T) {
	for groups := 1; groups <= 4; groups++ {
		for size := 16; size <= 512; size++ {
			for inodes := 4; inodes <= 64; inodes += 4 {
				g := api.Geo{Groups: groups, Size: size, Inodes: inodes, Journal: 40 + size%8}
				want := [3]int{2 + g.Journal + groups*size, groups * inodes, size - 2 - inodes/4}
				if !may(g) {
					want = [3]int{}
				}
				if got := [3]int{geo.Blocks(g), geo.Inodes(g), geo.Data(g)}; got != want {
					t.Fatalf("%v: %v, not %v", g, got, want)
				}
			}
		}
	}
}

// P5.1 to P5.4: all that is told of geometries that may be, gone through up and down, so that one isn't told by what was asked of another.
func TestSamples(t *testing.T) {
	l := samples()
	for _, g := range l {
		same(t, g)
	}
	slices.Reverse(l)
	for _, g := range l {
		same(t, g)
	}
}

// P5.1 to P5.4, P0.1, P0.2, P0.5: a geometry that may not be.
func TestBad(t *testing.T) {
	asked := []int{0, 1, 2, 3, 16, 42, 43, 44, 58, 73, 2047, -1, 1 << 62, math.MinInt, math.MaxInt}
	for _, g := range bad() {
		if may(g) {
			t.Fatalf("%v may be", g)
		}
		nothing(t, g, asked)
	}
	nothing(t, api.Geo{}, far)
}

// P5.2 to P5.4, P0.1, P0.2, P0.5: blocks, groups, inodes and bits that there are none of, next to those that there are, and far away.
func TestOutside(t *testing.T) {
	for _, g := range samples() {
		blocks, inodes := len(image(g)), g.Groups*g.Inodes
		for _, v := range append([]int{blocks, blocks + 1, 2 * blocks, 2048, 2049}, far...) {
			noWhat(t, g, v)
		}
		for _, v := range append([]int{g.Groups, g.Groups + 1, 4, 5, 42, 256, 256 + g.Groups - 1}, far...) {
			noStart(t, g, v)
			for _, bit := range []int{0, 1, g.Inodes - 1, g.Inodes, -1, -g.Inodes, v} {
				noNumber(t, g, v, bit)
			}
		}
		for _, v := range append([]int{0, inodes + 1, inodes + 2, 2*inodes + 1, 257}, far...) {
			noInode(t, g, v)
		}
		for _, v := range append([]int{g.Inodes, g.Inodes + 1, 64, 65, inodes, 256}, far...) {
			for group := -1; group <= g.Groups; group++ {
				noNumber(t, g, group, v)
			}
		}
	}
}

// P5.5: each block is just one thing, and of each thing there are as many as the geometry says; a group begins at its block bitmap.
func TestEachBlockOnce(t *testing.T) {
	for _, g := range samples() {
		told := map[one]int{}
		kinds := map[[2]int]int{}
		for block := range geo.Blocks(g) {
			o := what(g, block)
			if was, is := told[o]; is {
				t.Fatalf("%v: blocks %d and %d are both %v", g, was, block, o)
			}
			told[o] = block
			kinds[[2]int{int(o.kind), o.group}]++
			first, ok := geo.Start(g, o.group)
			if !ok || o.kind >= geo.WBlockBits && block != first+o.at || o.kind == geo.WJournal && block != 2+o.at {
				t.Fatalf("%v: block %d is %v", g, block, o)
			}
		}
		want := map[[2]int]int{{1, 0}: 1, {2, 0}: 1, {3, 0}: g.Journal}
		for group := range g.Groups {
			want[[2]int{4, group}], want[[2]int{5, group}] = 1, 1
			want[[2]int{6, group}], want[[2]int{7, group}] = g.Inodes/4, geo.Data(g)
		}
		for k, n := range want {
			if kinds[k] != n {
				t.Fatalf("%v: %d blocks of kind %d in group %d, not %d", g, kinds[k], k[0], k[1], n)
			}
		}
		if len(kinds) != len(want) {
			t.Fatalf("%v: %v, not %v", g, kinds, want)
		}
	}
}

// P5.6: each inode has a place of its own in a table's block of its own group, four to a block, and none is left; Number leads back, and from there to the same home.
func TestEachInodeOnce(t *testing.T) {
	for _, g := range samples() {
		places := map[[2]int]int{}
		inBlock := map[int]int{}
		for ino := 1; ino <= geo.Inodes(g); ino++ {
			block, place, ok := geo.Inode(g, ino)
			group, bit, is := geo.Home(g, ino)
			if o := what(g, block); !ok || !is || o.kind != geo.WTable || o.group != group || o.at != 2+bit/4 {
				t.Fatalf("%v: inode %d stands in block %d, which is %v", g, ino, block, o)
			}
			if was := places[[2]int{block, place}]; was != 0 {
				t.Fatalf("%v: inodes %d and %d stand at %d of block %d", g, was, ino, place, block)
			}
			places[[2]int{block, place}] = ino
			inBlock[block]++
			if n := geo.Number(g, group, bit); n != ino {
				t.Fatalf("%v: inode %d has the home %d %d, whose number is %d", g, ino, group, bit, n)
			}
		}
		for block := range geo.Blocks(g) {
			want := 0
			if what(g, block).kind == geo.WTable {
				want = 4
			}
			if inBlock[block] != want {
				t.Fatalf("%v: %d inodes in block %d, not %d", g, inBlock[block], block, want)
			}
		}
	}
}

// P5.6: each group and bit has a number of its own, rising, and none is left.
func TestNumbersRise(t *testing.T) {
	for _, g := range samples() {
		last := 0
		for group := range g.Groups {
			for bit := range g.Inodes {
				n := geo.Number(g, group, bit)
				if n != last+1 {
					t.Fatalf("%v: Number %d %d: %d behind %d", g, group, bit, n, last)
				}
				last = n
				if group2, bit2, ok := geo.Home(g, n); group2 != group || bit2 != bit || !ok {
					t.Fatalf("%v: Home %d: %d %d %v, not %d %d", g, n, group2, bit2, ok, group, bit)
				}
			}
		}
		if last != geo.Inodes(g) {
			t.Fatalf("%v: %d numbers, %d inodes", g, last, geo.Inodes(g))
		}
	}
}
