package disk_test

import (
	"math"
	"slices"
	"testing"

	"quern/api"
	"quern/disk"
)

// outside are places that lie in no disk of n blocks.
func outside(n int) []int {
	return []int{n, n + 1, -1, -2, -n, api.MaxBlocks, math.MaxInt, math.MaxInt - 1, math.MinInt, math.MinInt + 1, math.MinInt32}
}

// filled answers a block unlike those of other numbers, in its first bytes, its last ones and between.
func filled(v int) api.Block {
	var x api.Block
	for i := range x {
		x[i] = byte(v>>(8*(i%2)) + 7*i)
	}
	return x
}

// blocks answers an image of n unlike blocks, with spare room behind it that isn't noughts.
func blocks(n int) []api.Block {
	whole := make([]api.Block, n+3)
	for i := range whole {
		whole[i] = filled(1000 + i)
	}
	return whole[:n]
}

func created(t *testing.T, n int) *disk.Disk {
	t.Helper()
	d, e := disk.New(n)
	if d == nil || e != api.OK {
		t.Fatalf("New of %d: %v %v", n, d, e)
	}
	return d
}

func loaded(t *testing.T, image []api.Block) *disk.Disk {
	t.Helper()
	d, e := disk.Load(image)
	if d == nil || e != api.OK {
		t.Fatalf("Load of %d blocks: %v %v", len(image), d, e)
	}
	return d
}

func mustWrite(t *testing.T, d *disk.Disk, b int, x api.Block) {
	t.Helper()
	if e := d.Write(b, x); e != api.OK {
		t.Fatalf("Write of %d: %v", b, e)
	}
}

func mustFlush(t *testing.T, d *disk.Disk) {
	t.Helper()
	if e := d.Flush(); e != api.OK {
		t.Fatalf("Flush: %v", e)
	}
}

type pending struct {
	at int
	x  api.Block
}

// model is a disk by the document's own words: what is safe, and what waits; all else is worked out anew each time.
type model struct {
	safe    []api.Block
	waiting []pending
	acts    int
	since   int // acts since Power set a number
	after   int // that number; below 0: none
}

func (m *model) dead() bool { return m.after >= 0 && m.since >= m.after }

func (m *model) image() []api.Block {
	l := slices.Clone(m.safe)
	for _, w := range m.waiting {
		l[w.at] = w.x
	}
	return l
}

func (m *model) act() {
	m.acts++
	m.since++
}

func (m *model) refusal(b int) api.Errno {
	switch {
	case m.dead():
		return api.ErrPower
	case b < 0 || b >= len(m.safe):
		return api.ErrArg
	}
	return api.OK
}

func (m *model) write(b int, x api.Block) api.Errno {
	e := m.refusal(b)
	if e == api.OK {
		m.waiting = append(m.waiting, pending{b, x})
		m.act()
	}
	return e
}

func (m *model) flush() api.Errno {
	e := m.refusal(0)
	if e == api.OK {
		m.safe, m.waiting = m.image(), nil
		m.act()
	}
	return e
}

func (m *model) power(after int) { m.after, m.since = after, 0 }

func (m *model) crash(keep []bool) {
	for i, w := range m.waiting {
		if i < len(keep) && keep[i] {
			m.safe[w.at] = w.x
		}
	}
	m.waiting, m.after = nil, -1
}

// same holds all that a disk tells against the model.
func same(t *testing.T, d *disk.Disk, m *model) {
	t.Helper()
	if d.Blocks() != len(m.safe) || d.Waiting() != len(m.waiting) || d.Acts() != m.acts || d.Dead() != m.dead() {
		t.Fatalf("%d blocks, %d wait, %d acts, dead %v; not %d, %d, %d, %v", d.Blocks(), d.Waiting(), d.Acts(), d.Dead(),
			len(m.safe), len(m.waiting), m.acts, m.dead())
	}
	image := m.image()
	if !slices.Equal(d.Image(), image) {
		t.Fatal("Image isn't what was written last")
	}
	if !slices.Equal(d.Safe(), m.safe) {
		t.Fatal("Safe isn't what is safe")
	}
	for b := range image {
		want := api.Block{}
		if !m.dead() {
			want = image[b]
		}
		if x, e := d.Read(b); x != want || e != m.refusal(b) {
			t.Fatalf("Read of %d: %v, %v; not %v, %v", b, x, e, want, m.refusal(b))
		}
	}
}

// Examples of the chapter.
func TestExamples(t *testing.T) {
	d := created(t, 4)
	x, y, z := filled(1), filled(2), filled(3)
	mustWrite(t, d, 1, x)
	mustWrite(t, d, 1, y)
	mustWrite(t, d, 2, z)
	same(t, d, &model{safe: make([]api.Block, 4), waiting: []pending{{1, x}, {1, y}, {2, z}}, acts: 3, after: -1})
	d.Crash([]bool{true, false, true})
	left := []api.Block{{}, x, z, {}}
	same(t, d, &model{safe: left, acts: 3, after: -1})
	if e := d.Write(4, x); e != api.ErrArg {
		t.Errorf("Write of 4: %v", e)
	}
	if _, e := d.Read(-1); e != api.ErrArg {
		t.Errorf("Read of -1: %v", e)
	}
	d.Power(1)
	mustWrite(t, d, 0, x)
	if e := d.Flush(); e != api.ErrPower {
		t.Errorf("Flush without power: %v", e)
	}
	same(t, d, &model{safe: left, waiting: []pending{{0, x}}, acts: 4, after: 0})
	d.Crash(nil)
	same(t, d, &model{safe: left, acts: 4, after: -1})
}

// P3.1, P0.2, P0.5: from 1 block to the most; a disk of noughts that waits for nothing, and whose power stays.
func TestNew(t *testing.T) {
	for _, n := range []int{1, 2, 3, 66, 2047, 2048} {
		d := created(t, n)
		m := &model{safe: make([]api.Block, n), after: -1}
		same(t, d, m)
		m.write(n-1, filled(9))
		mustWrite(t, d, n-1, filled(9))
		same(t, d, m)
	}
	for _, n := range []int{0, -1, -2, math.MinInt, math.MinInt32, 2049, 2050, 4096, math.MaxInt32, math.MaxInt} {
		if d, e := disk.New(n); d != nil || e != api.ErrArg {
			t.Errorf("New of %d: %v %v", n, d, e)
		}
	}
}

// P3.1, P0.2, P0.4: images of one block to the most; nil ones are as empty ones.
func TestLoad(t *testing.T) {
	for _, n := range []int{1, 2, 3, 66, 2047, 2048} {
		image := blocks(n)
		d := loaded(t, image)
		m := &model{safe: slices.Clone(image), after: -1}
		same(t, d, m)
		d.Crash(nil)
		same(t, d, m)
	}
	for _, image := range [][]api.Block{nil, {}, blocks(0), blocks(2049), blocks(2050), blocks(5000)} {
		if d, e := disk.Load(image); d != nil || e != api.ErrArg {
			t.Errorf("Load of %d blocks: %v %v", len(image), d, e)
		}
	}
}

// P3.1, P0.4: the image that was handed in is neither changed nor kept, the room behind it neither.
func TestLoadKeepsNothing(t *testing.T) {
	image := blocks(5)
	was := slices.Clone(image[:cap(image)])
	d, other := loaded(t, image), loaded(t, image)
	m := &model{safe: slices.Clone(image), after: -1}
	for b := range 5 {
		m.write(b, filled(b))
		mustWrite(t, d, b, filled(b))
	}
	same(t, d, m)
	mustFlush(t, d)
	m.flush()
	if !slices.Equal(image[:cap(image)], was) {
		t.Error("the image was changed")
	}
	clear(image[:cap(image)])
	same(t, d, m)
	same(t, other, &model{safe: was[:5], after: -1})
}

// P3.1: disks know nothing of each other.
func TestTwoDisks(t *testing.T) {
	one, two := created(t, 2), created(t, 2)
	mustWrite(t, one, 0, filled(1))
	one.Power(0)
	same(t, two, &model{safe: make([]api.Block, 2), after: -1})
	mustFlush(t, two)
	same(t, one, &model{safe: make([]api.Block, 2), waiting: []pending{{0, filled(1)}}, acts: 1, after: 0})
}

// P0.1, P3.2, P3.5: all calls on a nil disk and on one that nobody made, whose arguments are wrong or right.
func TestNobodyMade(t *testing.T) {
	for _, d := range []*disk.Disk{nil, {}, new(disk.Disk)} {
		none := func() {
			t.Helper()
			if d.Blocks() != 0 || d.Waiting() != 0 || d.Acts() != 0 || d.Dead() || len(d.Image()) != 0 || len(d.Safe()) != 0 {
				t.Fatal("a disk that isn't one tells something")
			}
			for _, b := range append(outside(1), 0) {
				if x, e := d.Read(b); x != (api.Block{}) || e != api.ErrNil {
					t.Fatalf("Read of %d: %v %v", b, x, e)
				}
				if e := d.Write(b, filled(1)); e != api.ErrNil {
					t.Fatalf("Write of %d: %v", b, e)
				}
			}
			if e := d.Flush(); e != api.ErrNil {
				t.Fatalf("Flush: %v", e)
			}
		}
		none()
		for _, after := range []int{0, 1, -1, math.MaxInt, math.MinInt} {
			d.Power(after)
			none()
		}
		for _, keep := range [][]bool{nil, {}, {true}, {false, true}} {
			d.Crash(keep)
			none()
		}
	}
}

// P3.2, P0.3, P0.5: what lies outside is refused and is no act; a dead disk is told first, whatever the block.
func TestRefused(t *testing.T) {
	for _, n := range []int{1, 4, 2048} {
		d, m := created(t, n), &model{safe: make([]api.Block, n), after: -1}
		mustWrite(t, d, n-1, filled(3))
		m.write(n-1, filled(3))
		for _, after := range []int{2, 0} {
			d.Power(after)
			m.power(after)
			for _, b := range outside(n) {
				if x, e := d.Read(b); x != (api.Block{}) || e != m.refusal(b) || e == api.OK {
					t.Errorf("Read of %d: %v %v", b, x, e)
				}
				if e := d.Write(b, filled(4)); e != m.refusal(b) || e == api.OK {
					t.Errorf("Write of %d: %v", b, e)
				}
			}
			same(t, d, m)
		}
		for range 3 {
			if d.Write(0, filled(5)) != api.ErrPower || d.Flush() != api.ErrPower {
				t.Error("a dead disk does something")
			}
		}
		same(t, d, m)
		d.Power(2)
		m.power(2)
		mustFlush(t, d)
		m.flush()
		same(t, d, m)
	}
}

// P3.2: what was written last is read, safe or waiting; a flush makes all safe, in their order, and leaves none; noughts may be written too.
func TestWriteReadFlush(t *testing.T) {
	image := blocks(3)
	d, m := loaded(t, image), &model{safe: slices.Clone(image), after: -1}
	for i, b := range []int{0, 2, 0, 0, 1, 2, 0, 1} {
		x := filled(i)
		if i == 6 {
			x = api.Block{}
		}
		mustWrite(t, d, b, x)
		m.write(b, x)
		same(t, d, m)
	}
	for range 3 {
		mustFlush(t, d)
		m.flush()
		same(t, d, m)
	}
	if got, want := d.Safe(), []api.Block{{}, filled(7), filled(5)}; !slices.Equal(got, want) {
		t.Error("not the last ones are safe")
	}
}

// P3.2, P3.5: as often as it may be, on one block alone: each write waits, and is an act.
func TestManyWrites(t *testing.T) {
	d := created(t, 2)
	for i := range 20000 {
		mustWrite(t, d, 1, filled(i))
		if x, e := d.Read(1); x != filled(i) || e != api.OK {
			t.Fatalf("write %d isn't read", i)
		}
	}
	if d.Waiting() != 20000 || d.Acts() != 20000 {
		t.Errorf("%d wait, %d acts", d.Waiting(), d.Acts())
	}
	keep := make([]bool, 20000)
	keep[12345] = true
	d.Crash(keep)
	same(t, d, &model{safe: []api.Block{{}, filled(12345)}, acts: 20000, after: -1})
}

// P3.3: whatever the number of acts, and of which kind they are; reads and what is refused are none.
func TestPower(t *testing.T) {
	for after := -2; after <= 9; after++ {
		for kinds := range 1 << 8 {
			d, m := created(t, 2), &model{safe: make([]api.Block, 2), after: -1}
			d.Power(after)
			m.power(after)
			for i := range 8 {
				d.Read(0)
				d.Write(2, filled(1))
				if kinds>>i&1 == 1 {
					if got, want := d.Flush(), m.flush(); got != want {
						t.Fatalf("Flush, act %d of %d: %v, not %v", i, after, got, want)
					}
				} else if got, want := d.Write(i%2, filled(i)), m.write(i%2, filled(i)); got != want {
					t.Fatalf("Write, act %d of %d: %v, not %v", i, after, got, want)
				}
			}
			same(t, d, m)
		}
	}
}

// P3.3: set again, on a dead disk or a living one: the last one counts, and what waits still waits.
func TestPowerAgain(t *testing.T) {
	numbers := []int{0, 1, 2, 3, 100, -1, -2, math.MinInt, math.MaxInt}
	for _, first := range numbers {
		for _, second := range numbers {
			d, m := created(t, 3), &model{safe: make([]api.Block, 3), after: -1}
			d.Power(first)
			m.power(first)
			for b := range 3 {
				if got, want := d.Write(b, filled(b)), m.write(b, filled(b)); got != want {
					t.Fatalf("Power %d, write %d: %v, not %v", first, b, got, want)
				}
			}
			same(t, d, m)
			d.Power(second)
			m.power(second)
			same(t, d, m)
			for b := range 3 {
				if got, want := d.Write(b, filled(9+b)), m.write(b, filled(9+b)); got != want {
					t.Fatalf("Power %d and %d, write %d: %v, not %v", first, second, b, got, want)
				}
			}
			same(t, d, m)
		}
	}
}

// P3.3, P3.6: a flush that is the last act is done whole: it leaves nothing for a crash.
func TestFlushIsLast(t *testing.T) {
	d := created(t, 2)
	d.Power(3)
	mustWrite(t, d, 0, filled(1))
	mustWrite(t, d, 1, filled(2))
	mustFlush(t, d)
	want := []api.Block{filled(1), filled(2)}
	same(t, d, &model{safe: want, acts: 3, after: 0})
	d.Crash(nil)
	same(t, d, &model{safe: want, acts: 3, after: -1})
}

// P3.4: the power is there again behind a crash, whatever was set, and no act was done by it.
func TestCrashBringsPower(t *testing.T) {
	for _, after := range []int{0, 1, 2, 50, -1} {
		d := created(t, 1)
		mustWrite(t, d, 0, filled(1))
		d.Power(after)
		d.Crash([]bool{true})
		m := &model{safe: []api.Block{filled(1)}, acts: 1, after: -1}
		same(t, d, m)
		for i := range 100 {
			mustWrite(t, d, 0, filled(i))
			m.write(0, filled(i))
		}
		same(t, d, m)
	}
}

// P3.4, P0.4: each list of flags of up to 8, for six writes of which several are of one block; the list stays as it is.
func TestCrashEveryWay(t *testing.T) {
	places := []int{1, 0, 1, 2, 1, 0}
	for n := range 9 {
		for flags := range 1 << n {
			d, m := loaded(t, blocks(4)), &model{safe: slices.Clone(blocks(4)), after: -1}
			for i, b := range places {
				mustWrite(t, d, b, filled(i))
				m.write(b, filled(i))
			}
			keep := make([]bool, n, 12)
			for i := range keep {
				keep[i] = flags>>i&1 == 1
			}
			// What stands behind the flags is none of them.
			spare := keep[:12]
			for i := n; i < 12; i++ {
				spare[i] = true
			}
			was := slices.Clone(spare)
			d.Crash(keep)
			m.crash(was[:n])
			if !slices.Equal(spare, was) {
				t.Fatalf("flags %v were changed", was[:n])
			}
			clear(spare)
			same(t, d, m)
			d.Crash(was)
			same(t, d, m)
		}
	}
}

// P3.4: of several writes of a block an earlier one comes through alone; it isn't undone, and nothing is written again.
func TestEarlierAlone(t *testing.T) {
	for alone := range 5 {
		d := created(t, 2)
		for i := range 5 {
			mustWrite(t, d, 1, filled(i))
		}
		keep := make([]bool, 5)
		keep[alone] = true
		d.Crash(keep)
		m := &model{safe: []api.Block{{}, filled(alone)}, acts: 5, after: -1}
		same(t, d, m)
		mustFlush(t, d)
		m.flush()
		same(t, d, m)
	}
}

// P3.6: behind a crash each block has what was safe, or what a write that waited had for it; all of them: what Read told; behind a flush: no change.
func TestCrashLeaves(t *testing.T) {
	places := []int{3, 1, 1, 3, 0, 3, 1}
	for flags := range 1 << len(places) {
		d := loaded(t, blocks(4))
		may := make([][]api.Block, 4)
		for b, x := range d.Safe() {
			may[b] = append(may[b], x)
		}
		keep := make([]bool, len(places))
		for i, b := range places {
			mustWrite(t, d, b, filled(i))
			may[b] = append(may[b], filled(i))
			keep[i] = flags>>i&1 == 1
		}
		read := d.Image()
		d.Crash(keep)
		for b, x := range d.Safe() {
			if !slices.Contains(may[b], x) {
				t.Fatalf("flags %b: block %d has what nobody wrote there", flags, b)
			}
		}
		if flags == 1<<len(places)-1 && !slices.Equal(d.Safe(), read) {
			t.Error("all came through, but not what was read")
		}
	}
	for flags := range 1 << len(places) {
		d := created(t, 4)
		keep := make([]bool, len(places))
		for i, b := range places {
			mustWrite(t, d, b, filled(i))
			keep[i] = flags>>i&1 == 1
		}
		mustFlush(t, d)
		was := d.Safe()
		d.Crash(keep)
		if !slices.Equal(d.Safe(), was) || !slices.Equal(d.Image(), was) {
			t.Fatalf("flags %b: a crash behind a flush changed something", flags)
		}
	}
}

// P0.4, P3.5: what was told is the caller's own, the room behind it too; writing over it changes neither the disk nor what is told else.
func TestToldIsNew(t *testing.T) {
	image := blocks(3)
	d, m := loaded(t, image), &model{safe: slices.Clone(image), after: -1}
	spoil := func() {
		a, b, c, e := d.Image(), d.Safe(), d.Image(), d.Safe()
		wasC, wasE := slices.Clone(c), slices.Clone(e)
		clear(a[:cap(a)])
		clear(b[:cap(b)])
		if !slices.Equal(c, wasC) || !slices.Equal(e, wasE) {
			t.Error("two answers share memory")
		}
		x, _ := d.Read(1)
		x[0]++
		same(t, d, m)
	}
	spoil()
	mustWrite(t, d, 1, filled(1))
	m.write(1, filled(1))
	spoil()
	mustFlush(t, d)
	m.flush()
	spoil()
	d.Power(0)
	m.power(0)
	spoil()
	d.Crash(nil)
	m.crash(nil)
	spoil()
}

// P3.5: what is told of a disk stays as it was, though the disk goes on.
func TestToldStays(t *testing.T) {
	d := loaded(t, blocks(2))
	image, safe := d.Image(), d.Safe()
	mustWrite(t, d, 0, filled(1))
	mustFlush(t, d)
	if !slices.Equal(image, blocks(2)) || !slices.Equal(safe, blocks(2)) {
		t.Error("what was told has changed")
	}
}

// P3.5: asking changes nothing, also on a dead disk.
func TestAskingIsNoAct(t *testing.T) {
	d := created(t, 2)
	m := &model{safe: make([]api.Block, 2), after: -1}
	mustWrite(t, d, 0, filled(1))
	m.write(0, filled(1))
	d.Power(1)
	m.power(1)
	for range 5 {
		same(t, d, m)
	}
	mustWrite(t, d, 1, filled(2))
	m.write(1, filled(2))
	for range 5 {
		same(t, d, m)
	}
}

// rolls tells one number behind the other, the same ones in each run.
type rolls uint32

func (r *rolls) next(n int) int {
	*r = *r*1664525 + 1013904223
	return int(uint32(*r)>>8) % n
}

func (r *rolls) flags(n int) []bool {
	l := make([]bool, n)
	for i := range l {
		l[i] = r.next(2) == 1
	}
	return l
}

// P3.1 to P3.6: long runs of calls of all kinds, held against the model behind each.
func TestLongRuns(t *testing.T) {
	for seed := range 60 {
		r := rolls(seed)
		image := blocks(1 + r.next(6))
		d, m := loaded(t, image), &model{safe: slices.Clone(image), after: -1}
		for i := range 400 {
			switch k := r.next(16); {
			case k < 10:
				b := r.next(len(image)+2) - 1
				if got, want := d.Write(b, filled(i)), m.write(b, filled(i)); got != want {
					t.Fatalf("run %d, call %d: Write of %d: %v, not %v", seed, i, b, got, want)
				}
			case k < 12:
				if got, want := d.Flush(), m.flush(); got != want {
					t.Fatalf("run %d, call %d: Flush: %v, not %v", seed, i, got, want)
				}
			case k < 14:
				after := r.next(20) - 4
				d.Power(after)
				m.power(after)
			default:
				keep := r.flags(r.next(12))
				d.Crash(keep)
				m.crash(keep)
			}
			same(t, d, m)
		}
	}
}
