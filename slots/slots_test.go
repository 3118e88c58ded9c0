package slots_test

import (
	"encoding/binary"
	"math"
	"slices"
	"strings"
	"testing"

	"quern/api"
	"quern/slots"
)

// inos are inodes that a slot may have.
var inos = []uint32{1, 2, 7, 255, 256, 257, 65535, 1 << 16, 1 << 24, 1<<31 - 1, 1 << 31, math.MaxUint32 - 1, math.MaxUint32}

// may tells whether a name may be, by the document's own words.
func may(name string) bool {
	for _, c := range []byte(name) {
		if c == '/' || c == 0 {
			return false
		}
	}
	return len(name) >= 1 && len(name) <= 27 && name != "." && name != ".."
}

// bytesOf are a slot's bytes by the document's words, whether the slot may be or not; the name is cut short to what fits.
func bytesOf(s api.Slot) []byte {
	if s == (api.Slot{}) {
		return make([]byte, 32)
	}
	l := binary.LittleEndian.AppendUint32(nil, s.Ino)
	l = append(l, byte(len(s.Name)))
	l = append(l, s.Name...)
	return append(l, make([]byte, 32)...)[:32]
}

// block has these slots, one behind the other, then free ones.
func block(l ...api.Slot) api.Block {
	var b api.Block
	for i, s := range l {
		copy(b[32*i:], bytesOf(s))
	}
	return b
}

func slot(ino uint32, name string) api.Slot { return api.Slot{Ino: ino, Name: name} }

// slotsOf are a block's slots by the document's words, and whether it is right: they are, if their bytes are just these again.
func slotsOf(b api.Block) ([]api.Slot, bool) {
	var l []api.Slot
	seen := map[string]int{}
	for i := range 8 {
		m := b[32*i : 32*i+32]
		s := api.Slot{Ino: binary.LittleEndian.Uint32(m), Name: string(m[5:min(5+int(m[4]), 32)])}
		if string(bytesOf(s)) != string(m) {
			return nil, false
		}
		if s != (api.Slot{}) {
			seen[s.Name]++
			if s.Ino == 0 || !may(s.Name) || seen[s.Name] > 1 {
				return nil, false
			}
		}
		l = append(l, s)
	}
	return l, true
}

// find is what Find answers by the document's words.
func find(b api.Block, name string) (int, uint32) {
	l, _ := slotsOf(b)
	for i, s := range l {
		if s.Ino != 0 && s.Name == name {
			return i, s.Ino
		}
	}
	return -1, 0
}

// add is what Add makes of a block, and answers, by the document's words.
func add(b api.Block, name string, ino uint32) (api.Block, api.Errno) {
	l, ok := slotsOf(b)
	if !ok {
		return b, api.ErrSlots
	}
	if has, _ := find(b, name); !may(name) || ino == 0 || has >= 0 {
		return b, api.ErrArg
	}
	i := slices.Index(l, api.Slot{})
	if i < 0 {
		return b, api.ErrFull
	}
	copy(b[32*i:32*i+32], bytesOf(slot(ino, name)))
	return b, api.OK
}

// remove is what Remove makes of a block, and answers, by the document's words.
func remove(b api.Block, name string) (api.Block, bool) {
	i, _ := find(b, name)
	if i < 0 {
		return b, false
	}
	copy(b[32*i:32*i+32], make([]byte, 32))
	return b, true
}

// letters is a name of n bytes.
func letters(n int) string { return strings.Repeat("a", n) }

// full has eight names.
func full() api.Block {
	return block(slot(9, "d"), slot(8, "c"), slot(1, "..."), slot(math.MaxUint32, letters(27)), slot(7, "ab"), slot(7, "e.txt"), slot(256, "\xff\x80"), slot(3, "h"))
}

// good are blocks that are right: no slot used, each one alone, each one alone free, all eight, each name and inode at its bounds.
func good() []api.Block {
	l := []api.Block{{}, full()}
	for i := range 8 {
		one, most := make([]api.Slot, 8), full()
		one[i] = slot(uint32(i)+1, "a")
		clear(most[32*i : 32*i+32])
		l = append(l, block(one...), most)
	}
	for n := 1; n <= 27; n++ {
		l = append(l, block(slot(1, letters(n))), block(append(make([]api.Slot, 7), slot(2, letters(n)))...))
	}
	for _, ino := range inos {
		l = append(l, block(slot(ino, "a"), slot(ino, "b"), api.Slot{}, slot(ino, "c")))
	}
	for c := range 256 {
		if may("x" + string([]byte{byte(c)})) {
			l = append(l, block(slot(5, "x"+string([]byte{byte(c)})), slot(6, "x")))
		}
	}
	return l
}

// bad are blocks that are not right, each for one cause, in each of the eight slots, with the others free and with names.
func bad() []api.Block {
	var causes [][]byte
	for i := range 32 { // of a free slot one byte is not 0
		for _, v := range []byte{1, 2, 27, 28, 97, 128, 255} {
			m := make([]byte, 32)
			m[i] = v
			causes = append(causes, m)
		}
	}
	for n := range 256 { // a length of 0, of 28 and beyond; a shorter and a longer one than the name's
		m := append([]byte{1, 0, 0, 0, byte(n)}, letters(27)...)
		causes = append(causes, m, append([]byte{1, 0, 0, 0, byte(n), 'q', 'r'}, make([]byte, 25)...), append([]byte{1, 0, 0, 0, byte(n)}, make([]byte, 27)...))
	}
	for n := 1; n < 27; n++ { // a byte that is not 0 behind the name
		for at := 5 + n; at < 32; at++ {
			m := bytesOf(slot(1, letters(n)))
			m[at] = 1
			causes = append(causes, m)
		}
	}
	for n := 1; n <= 27; n++ { // a name and no inode; a `/` or a 0 in a name
		causes = append(causes, bytesOf(slot(0, letters(n))))
		for at := range n {
			for _, c := range []byte{'/', 0} {
				m := bytesOf(slot(1, letters(n)))
				m[5+at] = c
				causes = append(causes, m)
			}
		}
	}
	causes = append(causes, bytesOf(slot(1, ".")), bytesOf(slot(1, "..")), bytesOf(slot(math.MaxUint32, ".")), bytesOf(slot(1, "")))
	var l []api.Block
	for _, m := range causes {
		for i := range 8 {
			for _, b := range []api.Block{{}, full()} {
				copy(b[32*i:], m)
				if _, ok := slotsOf(b); !ok {
					l = append(l, b)
				}
			}
		}
	}
	return append(l, twice()...)
}

// twice are blocks of which two slots have one name.
func twice() []api.Block {
	var l []api.Block
	for _, name := range []string{"a", "...", "\xff", letters(27)} {
		for i := range 8 {
			for k := range i {
				b, s := full(), make([]api.Slot, 8)
				s[i], s[k] = slot(1, name), slot(2, name)
				copy(b[32*i:], bytesOf(s[i]))
				copy(b[32*k:], bytesOf(s[k]))
				s[i].Ino = 2
				l = append(l, b, block(s...))
			}
		}
	}
	return l
}

// names are asked of blocks, added and removed: such as may be, such as may not, such as the blocks have.
func names() []string {
	return []string{"", "a", "b", "c", "d", "ab", "e.txt", "h", "x", "q", "qr", "zz", ".", "..", "...", "....", ".a", "a.", "/", "a/", "/a", "a/b", "\x00", "a\x00", "\x00a", "a\x00b", "d\x00", "x\xff", "\xff\x80", "\xff", "\xff\x80\x00",
		letters(2), letters(26), letters(27), letters(28), letters(29), letters(32), letters(256 + 1), letters(256 + 27), letters(1 << 16), letters(26) + "/", letters(26) + "\x00", letters(27) + "\x00"}
}

// same holds all that is asked of a block against what the document's words make of it.
func same(t *testing.T, b api.Block, names ...string) {
	t.Helper()
	l, ok := slotsOf(b)
	e := api.OK
	if !ok {
		e = api.ErrSlots
	}
	if got, x := slots.List(b); x != e || !slices.Equal(got, l) {
		t.Fatalf("List of %v: %v %d, and not %v %d", b, got, x, l, e)
	}
	for _, name := range names {
		i, ino := find(b, name)
		if k, x := slots.Find(b, name); k != i || x != ino {
			t.Fatalf("Find %q in %v: %d %d, and not %d %d", name, b, k, x, i, ino)
		}
		for _, ino := range []uint32{0, 1, math.MaxUint32} {
			got := b
			want, e := add(b, name, ino)
			if x := slots.Add(&got, name, ino); x != e || got != want {
				t.Fatalf("Add %q %d to %v: %d, %v, and not %d, %v", name, ino, b, x, got, e, want)
			}
		}
		got := b
		want, gone := remove(b, name)
		if x := slots.Remove(&got, name); x != gone || got != want {
			t.Fatalf("Remove %q from %v: %v, %v, and not %v, %v", name, b, x, got, gone, want)
		}
	}
}

// TestExamples: the chapter's own examples.
func TestExamples(t *testing.T) {
	for name, want := range map[string]bool{"a": true, "": false, ".": false, "..": false, "...": true, "a/b": false, letters(27): true, letters(28): false, "a\x00": false} {
		if slots.MayName(name) != want {
			t.Errorf("%q", name)
		}
	}
	var b, two api.Block
	if e := slots.Add(&b, "ab", 7); e != api.OK || b != (api.Block{7, 0, 0, 0, 2, 97, 98}) {
		t.Errorf("%d %v", e, b)
	}
	if e := slots.Add(&b, "c", 8); e != api.OK {
		t.Errorf("%d", e)
	}
	if i, ino := slots.Find(b, "c"); i != 1 || ino != 8 {
		t.Errorf("%d %d", i, ino)
	}
	if !slots.Remove(&b, "ab") || slots.Add(&b, "d", 9) != api.OK {
		t.Errorf("%v", b)
	}
	if i, ino := slots.Find(b, "d"); i != 0 || ino != 9 {
		t.Errorf("%d %d", i, ino)
	}
	if i, ino := slots.Find(b, "ab"); i != -1 || ino != 0 {
		t.Errorf("%d %d", i, ino)
	}
	was := b
	if c, x, dot := slots.Add(&b, "c", 1), slots.Add(&b, "x", 0), slots.Add(&b, ".", 1); c != api.ErrArg || x != api.ErrArg || dot != api.ErrArg || b != was {
		t.Errorf("%d %d %d", c, x, dot)
	}
	b = full()
	if e := slots.Add(&b, "ninth", 1); e != api.ErrFull || b != full() {
		t.Errorf("%d", e)
	}
	copy(two[:], []byte{1, 0, 0, 0, 1, 97})
	copy(two[32:], []byte{2, 0, 0, 0, 1, 97})
	for _, b := range []api.Block{{0, 0, 0, 0, 1, 97}, {1, 0, 0, 0, 0}, two} {
		if l, e := slots.List(b); l != nil || e != api.ErrSlots {
			t.Errorf("%v: %v %d", b, l, e)
		}
	}
}

// TestMayName: P8.1, each length, and each byte at each place of a name.
func TestMayName(t *testing.T) {
	for n := range 600 {
		if want := n >= 1 && n <= 27; slots.MayName(letters(n)) != want || slots.MayName(strings.Repeat("\xff", n)) != want {
			t.Errorf("%d letters", n)
		}
		if want := n >= 3 && n <= 27; slots.MayName(strings.Repeat(".", n)) != want {
			t.Errorf("%d dots", n)
		}
	}
	for _, n := range []int{1<<16 + 1, 1<<20 + 27} {
		if slots.MayName(letters(n)) {
			t.Errorf("%d letters", n)
		}
	}
	for n := 1; n <= 28; n++ {
		for at := range n {
			for c := range 256 {
				name := letters(at) + string([]byte{byte(c)}) + letters(n-at-1)
				if want := n <= 27 && c != 0 && c != 47 && name != "."; slots.MayName(name) != want {
					t.Errorf("%q: %v", name, !want)
				}
			}
		}
	}
	for _, name := range names() {
		if slots.MayName(name) != may(name) {
			t.Errorf("%q", name)
		}
	}
}

// TestPairs: P8.1, each name of two bytes.
func TestPairs(t *testing.T) {
	for c := range 1 << 16 {
		name := string([]byte{byte(c >> 8), byte(c)})
		if slots.MayName(name) != may(name) {
			t.Errorf("%q", name)
		}
	}
}

// TestGood: P8.1 to P8.4, P8.6: blocks that are right.
func TestGood(t *testing.T) {
	for _, b := range good() {
		if _, ok := slotsOf(b); !ok {
			t.Fatalf("%v is not right", b)
		}
		same(t, b, names()...)
	}
}

// TestBad: P8.1 to P8.4: blocks that are not right are refused whatever is asked, with the errors' order.
func TestBad(t *testing.T) {
	l := bad()
	if len(l) < 10000 {
		t.Fatalf("%d blocks", len(l))
	}
	for _, b := range l {
		was := b
		if got, e := slots.List(b); got != nil || e != api.ErrSlots {
			t.Fatalf("List of %v: %v %d", b, got, e)
		}
		for _, name := range []string{"a", "d", "h", "zz", "", "."} {
			if i, ino := slots.Find(b, name); i != -1 || ino != 0 {
				t.Fatalf("Find %q in %v: %d %d", name, b, i, ino)
			}
			if e := slots.Add(&b, name, 1); e != api.ErrSlots || b != was {
				t.Fatalf("Add %q to %v: %d", name, was, e)
			}
			if e := slots.Add(&b, name, 0); e != api.ErrSlots || b != was {
				t.Fatalf("Add %q to %v: %d", name, was, e)
			}
			if slots.Remove(&b, name) || b != was {
				t.Fatalf("Remove %q from %v", name, was)
			}
		}
	}
}

// TestEachByte: P8.1 to P8.6: each byte of a block with each value.
func TestEachByte(t *testing.T) {
	some := block(slot(1, "a"), api.Slot{}, slot(2, "b"), slot(math.MaxUint32, letters(27)), api.Slot{}, slot(1<<24, "ab"), slot(3, "..."), api.Slot{})
	var ones api.Block
	for i := range ones {
		ones[i] = 1
	}
	for _, b := range []api.Block{{}, full(), some, ones} {
		for i := range b {
			for v := range 256 {
				x := b
				x[i] = byte(v)
				same(t, x, "a", "b")
			}
		}
	}
}

// TestLengths: P8.1: a length that leads beyond the slot or the block; no byte behind it is a nought, and all other slots are just so.
func TestLengths(t *testing.T) {
	for i := range 8 {
		for n := range 256 {
			l := make([]api.Slot, 8)
			for k := range l {
				l[k] = slot(0x61616161, letters(26)+string(rune('a'+k)))
			}
			b := block(l...)
			b[32*i+4] = byte(n)
			same(t, b, letters(27), letters(n), letters(1), letters(26)+"b")
		}
	}
}

// TestNil: P0.1, P8.3, P8.4: no block comes first.
func TestNil(t *testing.T) {
	for _, name := range names() {
		for _, ino := range []uint32{0, 1} {
			if e := slots.Add(nil, name, ino); e != api.ErrNil {
				t.Errorf("Add %q %d: %d", name, ino, e)
			}
		}
		if slots.Remove(nil, name) {
			t.Errorf("Remove %q", name)
		}
	}
}

// TestOrder: P0.2, P8.3: which error comes first.
func TestOrder(t *testing.T) {
	free, wrong := full(), full()
	clear(free[192:224])
	wrong[31] = 1
	type row struct {
		b    api.Block
		name string
		ino  uint32
		want api.Errno
	}
	for i, r := range []row{
		{wrong, ".", 0, api.ErrSlots}, {wrong, "c", 1, api.ErrSlots}, {wrong, "new", 1, api.ErrSlots}, {wrong, "new", 0, api.ErrSlots},
		{full(), ".", 1, api.ErrArg}, {full(), "", 1, api.ErrArg}, {full(), "new", 0, api.ErrArg}, {full(), "c", 1, api.ErrArg}, {full(), "h", 0, api.ErrArg}, {full(), letters(28), 1, api.ErrArg}, {full(), "new", 1, api.ErrFull},
		{free, "..", 1, api.ErrArg}, {free, "", 1, api.ErrArg}, {free, "", 0, api.ErrArg}, {free, "new", 0, api.ErrArg}, {free, "d", 1, api.ErrArg}, {free, "d", 9, api.ErrArg}, {free, "h", 1, api.ErrArg}, {free, "new", 1, api.OK}, {free, "new", math.MaxUint32, api.OK},
	} {
		b := r.b
		if e := slots.Add(&b, r.name, r.ino); e != r.want || e != api.OK && b != r.b {
			t.Errorf("%d: %q %d: %d", i, r.name, r.ino, e)
		}
	}
}

// TestFirstFree: P8.3: of any slots that are free the first one is taken, and no other byte is touched.
func TestFirstFree(t *testing.T) {
	for used := range 256 {
		b := full()
		for i := range 8 {
			if used>>i&1 == 0 {
				clear(b[32*i : 32*i+32])
			}
		}
		for _, ino := range inos {
			for _, name := range []string{"z", "zz", letters(26) + "z", "\x01", "\xfe"} {
				want, e := add(b, name, ino)
				got := b
				if x := slots.Add(&got, name, ino); x != e || got != want {
					t.Fatalf("%08b: %q %d: %d %v", used, name, ino, x, got)
				}
			}
		}
		same(t, b, "d", "c", "...", letters(27), "ab", "e.txt", "\xff\x80", "h")
	}
}

// TestThereAndBack: P8.5: what was added is found, till it is removed; added and removed the block is as it was.
func TestThereAndBack(t *testing.T) {
	for _, b := range good() {
		for _, name := range names() {
			was := b
			if slots.Add(&b, name, 77) != api.OK {
				continue
			}
			i, ino := slots.Find(b, name)
			if l, e := slots.List(b); ino != 77 || e != api.OK || l[i] != slot(77, name) {
				t.Fatalf("%q in %v: %d %d", name, b, i, ino)
			}
			if !slots.Remove(&b, name) || b != was {
				t.Fatalf("%q from %v: %v", name, was, b)
			}
			if k, ino := slots.Find(b, name); k != -1 || ino != 0 || slots.Remove(&b, name) || b != was {
				t.Fatalf("%q is there still: %d %d", name, k, ino)
			}
		}
	}
}

// TestLongRun: P8.5, P8.6: many names added and removed, one behind the other; each time all is as the document's words have it.
func TestLongRun(t *testing.T) {
	l := []string{"a", "b", "aa", "ab", "...", "/", "", "\xff", letters(27), letters(26), letters(28), "x.y"}
	var b api.Block
	at := uint32(1)
	pick := func(n int) int {
		at = at*1664525 + 1013904223
		return int(at>>16) % n
	}
	for range 20000 {
		name := l[pick(len(l))]
		was := b
		if pick(5) < 3 {
			ino := inos[pick(len(inos))] * uint32(min(pick(9), 1))
			want, e := add(b, name, ino)
			if x := slots.Add(&b, name, ino); x != e || b != want {
				t.Fatalf("Add %q %d to %v: %d %v", name, ino, was, x, b)
			}
		} else {
			want, gone := remove(b, name)
			if x := slots.Remove(&b, name); x != gone || b != want {
				t.Fatalf("Remove %q from %v: %v %v", name, was, x, b)
			}
		}
		toldOnce(t, b, l)
	}
}

// toldOnce holds List and Find against each other, name by name, and what List tells against all bytes.
func toldOnce(t *testing.T, b api.Block, names []string) {
	t.Helper()
	l, e := slots.List(b)
	if e != api.OK || len(l) != 8 || block(l...) != b {
		t.Fatalf("%v: %v %d", b, l, e)
	}
	for i, s := range l {
		if k, ino := slots.Find(b, s.Name); s.Ino != 0 && (k != i || ino != s.Ino) {
			t.Fatalf("%q in %v: %d %d", s.Name, b, k, ino)
		}
	}
	for _, name := range names {
		i, ino := slots.Find(b, name)
		listed := slices.IndexFunc(l, func(s api.Slot) bool { return s.Ino != 0 && s.Name == name })
		if i != listed || i >= 0 && l[i].Ino != ino {
			t.Fatalf("%q in %v: %d %d", name, b, i, ino)
		}
	}
}

// TestNewMemory: P0.3, P0.4: what is answered is nobody else's, and what is kept of a call is in the block alone.
func TestNewMemory(t *testing.T) {
	b := full()
	one, _ := slots.List(b)
	two, _ := slots.List(b)
	want, _ := slotsOf(full())
	for i := range one[:cap(one)] {
		one[:cap(one)][i] = slot(55, "mine")
	}
	three, _ := slots.List(b)
	if !slices.Equal(two, want) || !slices.Equal(three, want) || b != full() {
		t.Errorf("%v %v", two, three)
	}
	clear(b[:])
	if !slices.Equal(two, want) {
		t.Errorf("%v", two)
	}
	name := []byte("name")
	slots.Add(&b, string(name), 1)
	name[0] = 'x'
	if b != block(slot(1, "name")) {
		t.Errorf("%v", b)
	}
	l, _ := slots.List(b)
	slots.Remove(&b, "name")
	if l[0] != slot(1, "name") || b != (api.Block{}) {
		t.Errorf("%v", l)
	}
}

// TestTwoBlocks: P0.3: what is done to one block, or refused by it, is nothing to another one.
func TestTwoBlocks(t *testing.T) {
	var a, b api.Block
	slots.Add(&a, "a", 1)
	slots.Add(&b, "b", 2)
	slots.Add(&b, ".", 3)
	slots.Remove(&b, "a")
	if a != block(slot(1, "a")) || b != block(slot(2, "b")) {
		t.Errorf("%v %v", a, b)
	}
}
