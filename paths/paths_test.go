package paths_test

import (
	"math"
	"slices"
	"testing"

	"quern/api"
	"quern/paths"
)

// far are numbers that are no pointer's, level's, index's, nor one of a way: beyond all of these, near the least and the greatest int, such as wrap round when they are multiplied, and such as have a good number's lowest bytes.
var far = []int{math.MinInt, math.MinInt + 1, math.MinInt + 8, math.MinInt + 72, math.MinInt + 4168, math.MinInt / 2, math.MinInt / 64, math.MinInt32, -1 << 52, -1 << 32, -1 << 16, -65535, -4168, -4096, -72, -64,
	65536, 65537, 65544, 1<<16 + 72, 262144, 262144 + 4167, 262144 + 4168, 1 << 24, math.MaxInt32, 1<<31 + 8, 1<<32 + 1, 1<<32 + 8, 1<<32 + 72, 1 << 46, 1 << 52, 1<<52 + 1, 1 << 58, 1<<58 + 8, 1 << 62, math.MaxInt / 64, math.MaxInt - 4168, math.MaxInt - 72, math.MaxInt - 63, math.MaxInt - 8, math.MaxInt - 1, math.MaxInt}

// key is a way as a map's key: -1 where it has no number any more.
type key [4]int

func keyOf(way []int) key {
	k := key{-1, -1, -1, -1}
	copy(k[:], way)
	return k
}

// tree is the ways to the blocks of a whole tree, in order, as one comes by them from the inode down, those beyond the last index too.
func tree() [][]int {
	var l [][]int
	for ptr := range 8 {
		l = append(l, []int{ptr})
	}
	for a := range 64 {
		l = append(l, []int{8, a})
	}
	for a := range 64 {
		for b := range 64 {
			l = append(l, []int{9, a, b})
		}
	}
	for a := range 64 {
		for b := range 64 {
			for c := range 64 {
				l = append(l, []int{10, a, b, c})
			}
		}
	}
	return l
}

// ways are the ways to the blocks that a file may have.
func ways() [][]int { return tree()[:65536] }

// atlas has the indices to which ways lead.
type atlas map[key]int

func newAtlas() atlas {
	m := make(atlas)
	for i, way := range ways() {
		m[keyOf(way)] = i
	}
	return m
}

// leads answers the index to which a way leads; -1: it leads nowhere. (A key has -1 where a way has no number.)
func (m atlas) leads(ptr int, below []int) int {
	i, ok := m[keyOf(append([]int{ptr}, below...))]
	if !ok || len(below) > 3 || slices.Contains(below, -1) {
		return -1
	}
	return i
}

// hangs answers what a block hangs on: the block of level 1, by the way to it, or the direct pointer.
func hangs(way []int) key {
	if len(way) == 1 {
		return keyOf(way)
	}
	return keyOf(way[:len(way)-1])
}

// mustOf holds Of against a way; nil: there is no such index.
func mustOf(t *testing.T, index int, way []int) {
	t.Helper()
	ptr, below, e := paths.Of(index)
	if way == nil {
		if ptr != 0 || len(below) != 0 || e != api.ErrIndex {
			t.Fatalf("Of %d: %d %v %d, want an ErrIndex alone", index, ptr, below, e)
		}
		return
	}
	if ptr != way[0] || !slices.Equal(below, way[1:]) || e != api.OK {
		t.Fatalf("Of %d: %d %v %d, want %v", index, ptr, below, e, way)
	}
}

// mustIndex holds Index against an index; -1: there is none.
func mustIndex(t *testing.T, ptr int, below []int, index int) {
	t.Helper()
	i, e := paths.Index(ptr, below)
	switch {
	case index < 0 && (i != 0 || e != api.ErrIndex):
		t.Fatalf("Index %d %v: %d %d, want an ErrIndex alone", ptr, below, i, e)
	case index >= 0 && (i != index || e != api.OK):
		t.Fatalf("Index %d %v: %d %d, want %d", ptr, below, i, e, index)
	}
}

// TestExamples: the chapter's table.
func TestExamples(t *testing.T) {
	for ptr, want := range map[int]int{7: 0, 8: 1, 10: 3, 11: -1, -1: -1} {
		if got := paths.Level(ptr); got != want {
			t.Errorf("Level %d: %d, want %d", ptr, got, want)
		}
	}
	for level, want := range map[int]int{0: 1, 2: 4096, 3: 262144, 4: 0} {
		if got := paths.Span(level); got != want {
			t.Errorf("Span %d: %d, want %d", level, got, want)
		}
	}
	for ptr, want := range map[int]int{7: 7, 8: 8, 9: 72, 10: 4168, 11: -1} {
		if got := paths.First(ptr); got != want {
			t.Errorf("First %d: %d, want %d", ptr, got, want)
		}
	}
	for index, want := range map[int][]int{0: {0}, 8: {8, 0}, 71: {8, 63}, 72: {9, 0, 0}, 4167: {9, 63, 63}, 4168: {10, 0, 0, 0}, 65535: {10, 14, 62, 55}, 65536: nil, -1: nil} {
		mustOf(t, index, want)
	}
	mustIndex(t, 9, []int{1, 2}, 138)
	mustIndex(t, 8, []int{64}, -1)
	mustIndex(t, 8, nil, -1)
	mustIndex(t, 0, []int{0}, -1)
	mustIndex(t, 10, []int{63, 63, 63}, -1)
	for index, want := range map[int]int{7: 8, 8: 72, 71: 72, 72: 136, 135: 136, 136: 200, 65535: 65536, -4: 0} {
		if got := paths.Next(index); got != want {
			t.Errorf("Next %d: %d, want %d", index, got, want)
		}
	}
	for blocks, want := range map[int]int{8: 0, 9: 1, 72: 1, 73: 3, 136: 3, 137: 4} {
		if got := paths.Indirect(blocks); got != want {
			t.Errorf("Indirect %d: %d, want %d", blocks, got, want)
		}
	}
}

// TestPointers: P10.1 of pointers: each one's level is by one less than the way's numbers, and its first block is the one that the tree has first.
func TestPointers(t *testing.T) {
	level, first := map[int]int{}, map[int]int{}
	for i, way := range tree() {
		if _, ok := first[way[0]]; !ok {
			level[way[0]], first[way[0]] = len(way)-1, i
		}
	}
	if len(first) != 11 {
		t.Fatalf("the model has %d pointers", len(first))
	}
	for ptr := range 11 {
		if l, f := paths.Level(ptr), paths.First(ptr); l != level[ptr] || f != first[ptr] {
			t.Errorf("pointer %d: level %d, first %d, want %d, %d", ptr, l, f, level[ptr], first[ptr])
		}
	}
	none := slices.Clone(far)
	for n := 1; n < 300; n++ {
		none = append(none, -n, n+10)
	}
	for _, ptr := range none {
		if l, f := paths.Level(ptr), paths.First(ptr); l != -1 || f != -1 {
			t.Errorf("pointer %d: level %d, first %d, want -1 and -1", ptr, l, f)
		}
	}
}

// TestSpan: P10.1 of levels: as many blocks as the tree has on a pointer of that level.
func TestSpan(t *testing.T) {
	count := map[int]int{}
	for _, way := range tree() {
		count[way[0]]++
	}
	for level, ptr := range []int{0, 8, 9, 10} {
		if got := paths.Span(level); got != count[ptr] {
			t.Errorf("Span %d: %d, want %d", level, got, count[ptr])
		}
	}
	none := slices.Clone(far)
	for n := 1; n < 300; n++ {
		none = append(none, -n, n+3)
	}
	for _, level := range none {
		if got := paths.Span(level); got != 0 {
			t.Errorf("Span %d: %d, want 0", level, got)
		}
	}
}

// TestOf: P10.2: each index's way, and none of what is no index.
func TestOf(t *testing.T) {
	for i, way := range ways() {
		mustOf(t, i, way)
	}
	for n := range 70000 {
		mustOf(t, -1-n, nil)
		mustOf(t, 65536+n, nil)
	}
	for _, n := range far {
		mustOf(t, n, nil)
	}
}

// TestIndex: P10.3: each pointer, and each list of up to three numbers from -1 to 64.
func TestIndex(t *testing.T) {
	m := newAtlas()
	try := func(ptr int, below ...int) {
		t.Helper()
		mustIndex(t, ptr, below, m.leads(ptr, below))
	}
	for ptr := -2; ptr < 14; ptr++ {
		mustIndex(t, ptr, nil, m.leads(ptr, nil))
		mustIndex(t, ptr, []int{}, m.leads(ptr, nil))
		for a := -1; a <= 64; a++ {
			try(ptr, a)
			for b := -1; b <= 64; b++ {
				try(ptr, a, b)
			}
		}
	}
	for a := -1; a <= 64; a++ {
		for b := -1; b <= 64; b++ {
			for c := -1; c <= 64; c++ {
				try(10, a, b, c)
			}
		}
	}
}

// TestIndexLengths: P10.3 of ways with too few numbers, and with too many, each good in itself.
func TestIndexLengths(t *testing.T) {
	m := newAtlas()
	for ptr := -3; ptr < 15; ptr++ {
		for _, n := range []int{0, 1, 2, 3, 4, 5, 6, 7, 64, 4096, 100000} {
			for _, v := range []int{0, 1, 14} {
				below := slices.Repeat([]int{v}, n)
				mustIndex(t, ptr, below, m.leads(ptr, below))
			}
		}
	}
	for i, way := range ways() {
		if i%97 != 0 && i > 200 && i < 65500 {
			continue
		}
		mustIndex(t, way[0], append(slices.Clone(way[1:]), 0), -1)
		mustIndex(t, way[0], append([]int{0}, way[1:]...), -1)
		if len(way) > 1 {
			mustIndex(t, way[0], way[1:len(way)-1], -1)
			mustIndex(t, way[0], way[2:], -1)
		}
	}
}

// TestIndexFar: P10.3 of numbers that are far off, at each place of a way, alone and with another one that would make good for it.
func TestIndexFar(t *testing.T) {
	for _, v := range far {
		mustIndex(t, v, nil, -1)
		for _, below := range [][]int{{0}, {0, 0}, {0, 0, 0}} {
			mustIndex(t, v, below, -1)
			for at := range below {
				for _, other := range []int{0, 1, 63, 64, -1, -v, -v / 64, -v * 64, -v / 4096, -v * 4096} {
					l := slices.Repeat([]int{other}, len(below))
					l[at] = v
					mustIndex(t, 7+len(below), l, -1)
				}
			}
		}
	}
	for _, l := range [][]int{{-1, 64, 0}, {0, -1, 64}, {1, -64, 0}, {1, -1, 0}, {0, 1, -1}, {0, 0, 64}, {0, 64, 0}, {0, 0, -1}, {14, 62, 64}, {13, 126, 0}, {15, -1, 0}} {
		mustIndex(t, 10, l, -1)
	}
}

// TestIndexLast: P10.3 at the last index: what leads there is told, what leads beyond it is not.
func TestIndexLast(t *testing.T) {
	mustIndex(t, 10, []int{14, 62, 55}, 65535)
	mustIndex(t, 10, []int{14, 62, 54}, 65534)
	for i, way := range tree()[65536:] {
		if i%61 == 0 || i < 300 {
			mustIndex(t, way[0], way[1:], -1)
		}
	}
	mustIndex(t, 10, []int{14, 62, 56}, -1)
	mustIndex(t, 10, []int{14, 63, 0}, -1)
	mustIndex(t, 10, []int{15, 0, 0}, -1)
}

// TestNext: P10.4 of each index, of what is none, and of those below 0.
func TestNext(t *testing.T) {
	all := ways()
	want := 65536
	for i := len(all) - 1; i >= 0; i-- {
		if i+1 < len(all) && hangs(all[i]) != hangs(all[i+1]) {
			want = i + 1
		}
		if got := paths.Next(i); got != want {
			t.Fatalf("Next %d: %d, want %d", i, got, want)
		}
	}
	for n := range 70000 {
		if got := paths.Next(65536 + n); got != 65536 {
			t.Fatalf("Next %d: %d, want 65536", 65536+n, got)
		}
		if got := paths.Next(-1 - n); got != 0 {
			t.Fatalf("Next %d: %d, want 0", -1-n, got)
		}
	}
	for _, n := range far {
		want := 0
		if n > 0 {
			want = 65536
		}
		if got := paths.Next(n); got != want {
			t.Errorf("Next %d: %d, want %d", n, got, want)
		}
	}
}

// TestIndirect: P10.5 of each number of blocks: the blocks through which the ways go are counted, each once.
func TestIndirect(t *testing.T) {
	seen := map[key]int{}
	for n, way := range ways() {
		if got := paths.Indirect(n); got != len(seen) {
			t.Fatalf("Indirect %d: %d, want %d", n, got, len(seen))
		}
		for k := 1; k < len(way); k++ {
			seen[keyOf(way[:k])]++
		}
	}
	most := len(seen)
	if most != 1+(1+64)+(1+15+959) {
		t.Fatalf("the model has %d indirect blocks", most)
	}
	for n := range 70000 {
		if got := paths.Indirect(65536 + n); got != most {
			t.Fatalf("Indirect %d: %d, want %d", 65536+n, got, most)
		}
		if got := paths.Indirect(-1 - n); got != 0 {
			t.Fatalf("Indirect %d: %d, want 0", -1-n, got)
		}
	}
	for _, n := range far {
		want := 0
		if n > 0 {
			want = most
		}
		if got := paths.Indirect(n); got != want {
			t.Errorf("Indirect %d: %d, want %d", n, got, want)
		}
	}
}

// TestThereAndBack: P10.6: the two undo each other, and ways rise as indices do, number by number.
func TestThereAndBack(t *testing.T) {
	last := []int{-1}
	for i := range api.MaxIndex {
		ptr, below, e := paths.Of(i)
		if e != api.OK {
			t.Fatalf("Of %d: %d", i, e)
		}
		mustIndex(t, ptr, below, i)
		way := append([]int{ptr}, below...)
		if slices.Compare(last, way) >= 0 {
			t.Fatalf("the way of %d, %v, does not lie above %v", i, way, last)
		}
		last = way
	}
	found := 0
	for _, way := range tree() {
		if i, e := paths.Index(way[0], way[1:]); e == api.OK {
			found++
			mustOf(t, i, way)
		}
	}
	if found != api.MaxIndex {
		t.Errorf("%d ways lead to an index, want %d", found, api.MaxIndex)
	}
}

// TestStops: P10.7: from 0 on by Next one comes to each direct pointer and each block of level 1 once, and between two stops the last number alone goes on.
func TestStops(t *testing.T) {
	left := map[key]int{}
	for _, way := range ways() {
		left[hangs(way)] = 1
	}
	for at := 0; at < api.MaxIndex; {
		ptr, below, _ := paths.Of(at)
		way := append([]int{ptr}, below...)
		if left[hangs(way)] != 1 {
			t.Fatalf("at %d: %v is come to once more", at, way)
		}
		delete(left, hangs(way))
		next := paths.Next(at)
		if next <= at {
			t.Fatalf("Next %d: %d", at, next)
		}
		for i := at; i < next; i++ {
			p, b, e := paths.Of(i)
			other := append([]int{p}, b...)
			if e != api.OK || len(other) != len(way) || !slices.Equal(other[:len(other)-1], way[:len(way)-1]) {
				t.Fatalf("%d and %d: %v and %v", at, i, way, other)
			}
			if len(way) == 1 && i != at {
				t.Fatalf("%d and %d hang on direct pointers, with no stop between", at, i)
			}
		}
		at = next
	}
	if len(left) != 0 {
		t.Errorf("%d are never come to", len(left))
	}
}

// TestHandedIn: P0.4: a way that is handed in stays as it was, the room behind it too, whether it leads somewhere or not.
func TestHandedIn(t *testing.T) {
	for _, ptr := range []int{-1, 0, 7, 8, 9, 10, 11} {
		for n := range 6 {
			for _, v := range []int{-1, 0, 5, 14, 63, 64} {
				room := slices.Repeat([]int{77}, n+4)
				below := room[:n]
				for i := range below {
					below[i] = v
				}
				was := slices.Clone(room)
				i, e := paths.Index(ptr, below)
				if !slices.Equal(room, was) {
					t.Fatalf("Index %d %v: the list is %v behind it", ptr, was[:n], room)
				}
				// Nothing of it was kept: changed, it doesn't change what is told of another such list.
				clear(room)
				j, f := paths.Index(ptr, was[:n])
				if i != j || e != f {
					t.Fatalf("Index %d %v: %d %d, then %d %d", ptr, was[:n], i, e, j, f)
				}
			}
		}
	}
}

// TestCallersOwn: P0.4: what is told is the caller's own, the room behind it too: written over, it changes neither a list that was told ahead of it, nor one that is told then.
func TestCallersOwn(t *testing.T) {
	all := ways()
	edges := []int{0, 7, 8, 71, 72, 135, 136, 4167, 4168, 65535}
	for _, i := range edges {
		_, kept, _ := paths.Of(i)
		for _, j := range edges {
			_, below, _ := paths.Of(j)
			room := below[:cap(below)]
			for k := range room {
				room[k] = -7
			}
			mustOf(t, j, all[j])
			if !slices.Equal(kept, all[i][1:]) {
				t.Fatalf("the way of %d is %v, when that of %d is written over", i, kept, j)
			}
		}
	}
}

// TestNothingKept: P0.3 and P0.5: what is refused changes nothing that is told behind it, whatever the order of the calls.
func TestNothingKept(t *testing.T) {
	all := ways()
	for i := len(all) - 1; i >= 0; i -= 31 {
		v := far[i%len(far)]
		mustOf(t, v, nil)
		mustIndex(t, v, all[i][1:], -1)
		mustIndex(t, all[i][0], append(slices.Clone(all[i][1:]), v), -1)
		mustOf(t, i, all[i])
		mustIndex(t, all[i][0], all[i][1:], i)
	}
}
