package cache_test

import (
	"math"
	"slices"
	"testing"

	"quern/api"
	"quern/cache"
	"quern/disk"
)

// outside are numbers of no block of a disk of n: next to it, far off, and such as have a block's lowest bytes or bits.
func outside(n int) []int {
	return []int{-1, -2, -n, -n - 1, -256, -2048, math.MinInt32, -1 << 32, -1<<32 + n - 1, math.MinInt, math.MinInt + 1, math.MinInt + n - 1,
		n, n + 1, 2 * n, n + 256, n + 2048, 1<<16 + n, math.MaxInt32, 1 << 32, 1<<32 + n - 1, math.MaxInt - 1, math.MaxInt}
}

// picking are numbers that pick one of up to 6, or of none: each number's last and first, beyond them, and far off.
var picking = []int{0, 1, 2, 3, 4, 5, 6, 7, 8, 9, 10, 11, 12, 13, 59, 60, 61, 255, 256, 1 << 16, math.MaxInt32, 1 << 32, 1<<32 + 5, math.MaxInt - 1, math.MaxInt,
	-1, -2, -3, -4, -5, -6, -7, -60, -256, math.MinInt32, -1 << 32, math.MinInt + 1, math.MinInt}

// filled answers a block unlike those of other numbers, in its first bytes, its last ones and between.
func filled(v int) (x api.Block) {
	for i := range x {
		x[i] = byte(v>>(8*(i%2)) + 7*i)
	}
	return x
}

// block is what the model knows of one.
type block struct {
	has, dirty, pinned bool
	x                  api.Block
}

// model is a cache by the chapter's own words, over a disk of its own.
type model struct {
	d *disk.Disk
	l []block
}

func (m *model) refusal(b int) api.Errno {
	if b < 0 || b >= len(m.l) {
		return api.ErrArg
	}
	return api.OK
}

func (m *model) read(b int) (api.Block, api.Errno) {
	if e := m.refusal(b); e != api.OK {
		return api.Block{}, e
	}
	if !m.l[b].has {
		x, e := m.d.Read(b)
		if e != api.OK {
			return api.Block{}, e
		}
		m.l[b].has, m.l[b].dirty, m.l[b].x = true, false, x
	}
	return m.l[b].x, api.OK
}

func (m *model) write(b int, x api.Block) api.Errno {
	e := m.refusal(b)
	if e == api.OK {
		m.l[b].has, m.l[b].dirty, m.l[b].x = true, true, x
	}
	return e
}

func (m *model) back(b int) api.Errno {
	e := m.refusal(b)
	if e == api.OK && m.l[b].has && m.l[b].dirty {
		e = m.d.Write(b, m.l[b].x)
		m.l[b].dirty = e != api.OK
	}
	return e
}

func (m *model) drop(b int) api.Errno {
	if e := m.refusal(b); e != api.OK {
		return e
	}
	if m.l[b].pinned {
		return api.ErrPinned
	}
	m.l[b] = block{}
	return api.OK
}

func (m *model) pin(b int, on bool) {
	if m.refusal(b) == api.OK {
		m.l[b].pinned = on
	}
}

func (m *model) dirty() (l []int) {
	for b, x := range m.l {
		if x.has && x.dirty {
			l = append(l, b)
		}
	}
	return l
}

func (m *model) clean() (l []int) {
	for b, x := range m.l {
		if x.has && !x.dirty && !x.pinned {
			l = append(l, b)
		}
	}
	return l
}

func chosen(l []int, n int) (int, bool) {
	switch {
	case len(l) == 0:
		return 0, false
	case n < 0:
		return l[0], true
	}
	return l[n%len(l)], true
}

func (m *model) writeback(n int) (int, bool, api.Errno) {
	b, ok := chosen(m.dirty(), n)
	if !ok {
		return 0, false, api.OK
	}
	return b, true, m.back(b)
}

func (m *model) evict(n int) (int, bool) {
	b, ok := chosen(m.clean(), n)
	if ok {
		m.l[b].has = false
	}
	return b, ok
}

func (m *model) sync() api.Errno {
	for b := range m.l {
		if e := m.back(b); e != api.OK {
			return e
		}
	}
	return m.d.Flush()
}

// pair is a cache, the disk under it, and the model of both: what is done is done with both, and each answer held against the model's.
type pair struct {
	t *testing.T
	c *cache.Cache
	d *disk.Disk
	m *model
}

// created answers a cache that has nothing, over a disk of n blocks unlike each other.
func created(t *testing.T, n int) *pair {
	t.Helper()
	image := make([]api.Block, n)
	for b := range image {
		image[b] = filled(5000 + b)
	}
	d, _ := disk.Load(image)
	own, _ := disk.Load(image)
	c, e := cache.New(d)
	if c == nil || e != api.OK {
		t.Fatalf("New over %d blocks: %v %v", n, c, e)
	}
	return &pair{t, c, d, &model{own, make([]block, n)}}
}

func (p *pair) read(b int) {
	p.t.Helper()
	x, e := p.c.Read(b)
	if want, we := p.m.read(b); x != want || e != we {
		p.t.Fatalf("Read of %d: %v %v, not %v %v", b, x, e, want, we)
	}
}

func (p *pair) write(b int, x api.Block) {
	p.t.Helper()
	if e, we := p.c.Write(b, x), p.m.write(b, x); e != we {
		p.t.Fatalf("Write of %d: %v, not %v", b, e, we)
	}
}

func (p *pair) back(b int) {
	p.t.Helper()
	if e, we := p.c.Back(b), p.m.back(b); e != we {
		p.t.Fatalf("Back of %d: %v, not %v", b, e, we)
	}
}

func (p *pair) drop(b int) {
	p.t.Helper()
	if e, we := p.c.Drop(b), p.m.drop(b); e != we {
		p.t.Fatalf("Drop of %d: %v, not %v", b, e, we)
	}
}

func (p *pair) pin(b int, on bool) {
	p.c.Pin(b, on)
	p.m.pin(b, on)
}

func (p *pair) writeback(n int) {
	p.t.Helper()
	b, ok, e := p.c.Writeback(n)
	if wb, wok, we := p.m.writeback(n); b != wb || ok != wok || e != we {
		p.t.Fatalf("Writeback of %d: %d %v %v, not %d %v %v", n, b, ok, e, wb, wok, we)
	}
}

func (p *pair) evict(n int) {
	p.t.Helper()
	b, ok := p.c.Evict(n)
	if wb, wok := p.m.evict(n); b != wb || ok != wok {
		p.t.Fatalf("Evict of %d: %d %v, not %d %v", n, b, ok, wb, wok)
	}
}

func (p *pair) sync() {
	p.t.Helper()
	if e, we := p.c.Sync(), p.m.sync(); e != we {
		p.t.Fatalf("Sync: %v, not %v", e, we)
	}
}

func (p *pair) power(after int) {
	p.d.Power(after)
	p.m.d.Power(after)
}

func (p *pair) crash(keep ...bool) {
	p.d.Crash(keep)
	p.m.d.Crash(keep)
}

// below writes to the disk itself.
func (p *pair) below(b int, x api.Block) {
	p.d.Write(b, x)
	p.m.d.Write(b, x)
}

// same holds all that can be told without a change against the model, the disk too.
func (p *pair) same() {
	p.t.Helper()
	if p.c.Disk() != p.d {
		p.t.Fatal("another disk")
	}
	if l, want := p.c.Dirty(), p.m.dirty(); !slices.Equal(l, want) {
		p.t.Fatalf("Dirty: %v, not %v", l, want)
	}
	if l, want := p.c.Clean(), p.m.clean(); !slices.Equal(l, want) {
		p.t.Fatalf("Clean: %v, not %v", l, want)
	}
	if d, m := p.d, p.m.d; d.Acts() != m.Acts() || d.Waiting() != m.Waiting() || d.Dead() != m.Dead() {
		p.t.Fatalf("the disk: %d acts, %d wait, dead %v; not %d, %d, %v", d.Acts(), d.Waiting(), d.Dead(), m.Acts(), m.Waiting(), m.Dead())
	}
	if !slices.Equal(p.d.Image(), p.m.d.Image()) || !slices.Equal(p.d.Safe(), p.m.d.Safe()) {
		p.t.Fatal("the disk has other blocks")
	}
}

// through holds the whole cache against the model, what it has that is neither dirty nor clean too: the last thing that is done with it.
func (p *pair) through() {
	p.t.Helper()
	p.same()
	p.power(-1)
	for b := range p.m.l {
		// Only what the cache has is told as it was.
		p.below(b, filled(9000+b))
		p.read(b)
	}
	for b := range p.m.l {
		p.drop(b)
	}
	p.same()
}

// kinds is how many ways bring gives, and states twice as many: pinned or not.
const (
	kinds  = 6
	states = 2 * kinds
)

// bring brings a block into a state: not there, let go, read, written and written back, written, read and written.
func (p *pair) bring(b, state int) {
	p.t.Helper()
	switch state % kinds {
	case 1:
		p.read(b)
		p.drop(b)
	case 2:
		p.read(b)
	case 3:
		p.write(b, filled(b+1))
		p.back(b)
	case 4:
		p.write(b, filled(b+1))
	case 5:
		p.read(b)
		p.write(b, filled(b+1))
	}
	if state >= kinds {
		p.pin(b, true)
	}
}

// each hands on a cache over n blocks for each list of their states, with the power there and without.
func each(t *testing.T, n int, do func(p *pair)) {
	t.Helper()
	lists := 1
	for range n {
		lists *= states
	}
	for i := range 2 * lists {
		p := created(t, n)
		for b, rest := 0, i/2; b < n; b, rest = b+1, rest/states {
			p.bring(b, rest%states)
		}
		if i%2 == 1 {
			p.power(0)
		}
		do(p)
		p.through()
	}
}

// Examples of the chapter.
func TestExamples(t *testing.T) {
	d, _ := disk.New(4)
	c, e := cache.New(d)
	if e != api.OK {
		t.Fatalf("New: %v", e)
	}
	x, y := filled(1), filled(2)
	dirty := func(want ...int) {
		t.Helper()
		if l := c.Dirty(); !slices.Equal(l, want) {
			t.Errorf("Dirty: %v, not %v", l, want)
		}
	}
	clean := func(want ...int) {
		t.Helper()
		if l := c.Clean(); !slices.Equal(l, want) {
			t.Errorf("Clean: %v, not %v", l, want)
		}
	}
	noughts := func(b int) {
		t.Helper()
		if got, e := c.Read(b); got != (api.Block{}) || e != api.OK {
			t.Errorf("Read of %d: %v %v", b, got, e)
		}
	}
	if c.Write(1, x) != api.OK || c.Write(3, y) != api.OK {
		t.Error("Write of 1 or 3")
	}
	dirty(1, 3)
	clean()
	noughts(0)
	clean(0)
	if b, ok, e := c.Writeback(5); b != 3 || !ok || e != api.OK {
		t.Errorf("Writeback of 5: %d %v %v", b, ok, e)
	}
	dirty(1)
	if got, e := d.Read(3); got != y || e != api.OK {
		t.Errorf("the disk's Read of 3: %v %v", got, e)
	}
	c.Pin(3, true)
	if b, ok := c.Evict(0); b != 0 || !ok {
		t.Errorf("Evict: %d %v", b, ok)
	}
	if b, ok := c.Evict(0); b != 0 || ok {
		t.Errorf("Evict of none: %d %v", b, ok)
	}
	if e := c.Drop(3); e != api.ErrPinned {
		t.Errorf("Drop of what is pinned: %v", e)
	}
	if e := c.Drop(1); e != api.OK {
		t.Errorf("Drop: %v", e)
	}
	noughts(1)
	if e := c.Write(4, x); e != api.ErrArg {
		t.Errorf("Write of 4: %v", e)
	}
}

// P11.1: over disks of one block to the most, new ones, dead ones, and such as were written to: it has nothing, and the disk isn't asked.
func TestNew(t *testing.T) {
	for _, n := range []int{1, 2, 4, 66, 2047, 2048} {
		p := created(t, n)
		p.same()
		p.through()
	}
	for _, after := range []int{-1, 0, 1} {
		d, _ := disk.New(3)
		d.Write(1, filled(1))
		d.Power(after)
		c, e := cache.New(d)
		if c == nil || e != api.OK || c.Disk() != d {
			t.Fatalf("New: %v %v", c, e)
		}
		if d.Acts() != 1 || d.Waiting() != 1 || len(c.Dirty()) != 0 || len(c.Clean()) != 0 {
			t.Errorf("%d acts, %d wait, dirty %v, clean %v", d.Acts(), d.Waiting(), c.Dirty(), c.Clean())
		}
		d.Power(-1)
		d.Write(1, filled(2))
		if x, e := c.Read(1); x != filled(2) || e != api.OK {
			t.Errorf("Read: %v %v", x, e)
		}
	}
}

// P11.1, P0.1, P0.2: no disk, and such as nobody made.
func TestNewOverNothing(t *testing.T) {
	none, _ := disk.New(0)
	for _, d := range []*disk.Disk{nil, none, {}, new(disk.Disk)} {
		if c, e := cache.New(d); c != nil || e != api.ErrNil {
			t.Errorf("New: %v %v", c, e)
		}
	}
}

// P11.1: caches know nothing of each other, over one disk neither.
func TestTwoCaches(t *testing.T) {
	p := created(t, 3)
	other, _ := cache.New(p.d)
	p.write(0, filled(1))
	p.read(1)
	p.pin(2, true)
	if len(other.Dirty()) != 0 || len(other.Clean()) != 0 || other.Drop(2) != api.OK || other.Disk() != p.d {
		t.Error("a cache tells what another one has")
	}
	if x, e := other.Read(0); x != filled(5000) || e != api.OK {
		t.Errorf("Read: %v %v", x, e)
	}
	if x, e := other.Read(2); x != filled(5002) || e != api.OK || !slices.Equal(other.Clean(), []int{0, 2}) {
		t.Errorf("Read: %v %v, clean %v", x, e, other.Clean())
	}
	if e := other.Write(1, filled(2)); e != api.OK {
		t.Errorf("Write: %v", e)
	}
	p.through()
}

// P0.1, P0.2: all calls on a nil cache, and on one that nobody made, with wrong arguments and right ones.
func TestNobodyMade(t *testing.T) {
	for _, c := range []*cache.Cache{nil, {}, new(cache.Cache)} {
		for range 2 {
			for _, b := range append(outside(4), 0, 1, 2, 3) {
				c.Pin(b, true)
				c.Pin(b, false)
				if x, e := c.Read(b); x != (api.Block{}) || e != api.ErrNil {
					t.Errorf("Read of %d: %v %v", b, x, e)
				}
				if e := c.Write(b, filled(1)); e != api.ErrNil {
					t.Errorf("Write of %d: %v", b, e)
				}
				if e := c.Back(b); e != api.ErrNil {
					t.Errorf("Back of %d: %v", b, e)
				}
				if e := c.Drop(b); e != api.ErrNil {
					t.Errorf("Drop of %d: %v", b, e)
				}
				if n, ok, e := c.Writeback(b); n != 0 || ok || e != api.ErrNil {
					t.Errorf("Writeback of %d: %d %v %v", b, n, ok, e)
				}
				if n, ok := c.Evict(b); n != 0 || ok {
					t.Errorf("Evict of %d: %d %v", b, n, ok)
				}
			}
			if e := c.Sync(); e != api.ErrNil || c.Disk() != nil || len(c.Dirty()) != 0 || len(c.Clean()) != 0 {
				t.Errorf("Sync: %v; disk %v, dirty %v, clean %v", e, c.Disk(), c.Dirty(), c.Clean())
			}
		}
	}
}

// P11.2 to P11.5, P0.3, P0.5: what is no block of the disk is refused, on a dead disk by the same error, and changes nothing; the disk's first block and its last one are not.
func TestRefused(t *testing.T) {
	for _, n := range []int{1, 2, 4, 256, 2048} {
		for _, after := range []int{-1, 0} {
			p := created(t, n)
			p.write(0, filled(1))
			p.pin(n-1, true)
			p.power(after)
			for _, b := range outside(n) {
				for _, on := range []bool{true, false} {
					p.pin(b, on)
					if x, e := p.c.Read(b); x != (api.Block{}) || e != api.ErrArg {
						t.Fatalf("Read of %d: %v %v", b, x, e)
					}
					if e := p.c.Write(b, filled(2)); e != api.ErrArg {
						t.Fatalf("Write of %d: %v", b, e)
					}
					if e := p.c.Back(b); e != api.ErrArg {
						t.Fatalf("Back of %d: %v", b, e)
					}
					if e := p.c.Drop(b); e != api.ErrArg {
						t.Fatalf("Drop of %d: %v", b, e)
					}
				}
				p.same()
			}
			for _, b := range []int{0, n - 1} {
				p.read(b)
				p.write(b, filled(b+3))
				p.back(b)
				p.drop(b)
				p.same()
			}
			p.through()
		}
	}
}

// P11.2: what was read stays as it was, whatever the disk has and whether it is dead; what isn't there comes from the disk, newest bytes, waiting or safe.
func TestRead(t *testing.T) {
	p := created(t, 4)
	p.below(3, filled(1))
	for b := range 4 {
		for range 3 {
			p.read(b)
			p.same()
		}
	}
	for b := range 4 {
		p.below(b, filled(10+b))
		p.read(b)
	}
	p.drop(2)
	p.power(0)
	for _, b := range []int{0, 1, 3} {
		p.read(b)
	}
	for range 2 {
		if x, e := p.c.Read(2); x != (api.Block{}) || e != api.ErrPower {
			t.Fatalf("Read from a dead disk: %v %v", x, e)
		}
		p.same()
	}
	p.power(-1)
	p.below(2, filled(2))
	p.read(2)
	p.through()
}

// P11.3: the disk isn't asked, dead or not; what was written last counts, over what was read and what was written.
func TestWrite(t *testing.T) {
	for _, after := range []int{-1, 0} {
		p := created(t, 3)
		p.read(1)
		p.power(after)
		for i := range 3 {
			for b := range 3 {
				p.write(b, filled(10*i+b))
				p.read(b)
				p.same()
			}
		}
		if p.d.Acts() != 0 || !slices.Equal(p.c.Dirty(), []int{0, 1, 2}) {
			t.Errorf("%d acts, dirty %v", p.d.Acts(), p.c.Dirty())
		}
		p.write(1, api.Block{})
		p.read(1)
		p.through()
	}
}

// P11.3: bytes that are as they were make a block dirty all the same.
func TestWriteTheSame(t *testing.T) {
	p := created(t, 2)
	p.read(0)
	p.write(0, filled(5000))
	p.write(1, filled(5001))
	p.same()
	p.back(0)
	p.write(0, filled(5000))
	p.same()
	p.sync()
	if p.d.Acts() != 4 {
		t.Errorf("%d acts", p.d.Acts())
	}
	p.through()
}

// P11.4: a dirty block is written once, and waits; with an error it stays dirty, and is written when the power is there again.
func TestBack(t *testing.T) {
	p := created(t, 3)
	p.back(0)
	p.same()
	p.read(1)
	p.back(1)
	p.same()
	p.write(2, filled(1))
	p.power(0)
	for range 2 {
		if e := p.c.Back(2); e != api.ErrPower {
			t.Fatalf("Back on a dead disk: %v", e)
		}
		p.same()
		p.back(0)
		p.back(1)
		p.same()
	}
	p.power(1)
	for range 3 {
		if e := p.c.Back(2); e != api.OK || p.d.Acts() != 1 || p.d.Waiting() != 1 {
			t.Fatalf("Back: %v, %d acts, %d wait", e, p.d.Acts(), p.d.Waiting())
		}
		p.m.back(2)
		p.same()
	}
	p.write(2, filled(2))
	p.power(-1)
	p.back(2)
	p.through()
}

// P11.4: what a crash took of a block that was written back is in the cache still, clean; let go, it is as the disk has it.
func TestBackThenCrash(t *testing.T) {
	p := created(t, 2)
	p.write(1, filled(1))
	p.back(1)
	p.crash()
	p.same()
	if x, e := p.c.Read(1); x != filled(1) || e != api.OK {
		t.Errorf("Read: %v %v", x, e)
	}
	p.sync()
	if x, e := p.d.Read(1); x != filled(5001) || e != api.OK {
		t.Errorf("the disk's Read: %v %v", x, e)
	}
	p.drop(1)
	p.read(1)
	p.through()
}

// P11.4, P11.5: a pin counts once, however often it is put on; off where there is none it does nothing; it holds what is there and what isn't.
func TestPin(t *testing.T) {
	for state := range kinds {
		for flags := range 1 << 6 {
			p := created(t, 3)
			p.bring(1, state)
			for i := range 6 {
				p.pin(1, flags>>i&1 == 1)
				p.same()
			}
			p.drop(0)
			p.drop(2)
			p.drop(1)
			p.evict(0)
			p.same()
			p.read(1)
			p.same()
			p.through()
		}
	}
}

// P11.5: a pin is the number's: it outlives what is read, written, written back, let go by Evict, and a crash.
func TestPinStays(t *testing.T) {
	p := created(t, 2)
	p.pin(0, true)
	p.drop(0)
	p.read(0)
	p.same()
	p.write(0, filled(1))
	p.same()
	p.writeback(0)
	p.evict(0)
	p.same()
	p.sync()
	p.crash()
	p.same()
	p.drop(0)
	p.pin(0, false)
	p.same()
	p.evict(0)
	p.same()
	p.pin(0, true)
	p.read(0)
	p.through()
}

// P11.2 to P11.5: each call on each block, whatever the states of two blocks, with the power there and without.
func TestEachState(t *testing.T) {
	calls := map[string]func(p *pair, b int){
		"none":  func(p *pair, b int) {},
		"read":  func(p *pair, b int) { p.read(b) },
		"write": func(p *pair, b int) { p.write(b, filled(70+b)) },
		"back":  func(p *pair, b int) { p.back(b) },
		"drop":  func(p *pair, b int) { p.drop(b) },
		"pin":   func(p *pair, b int) { p.pin(b, true) },
		"unpin": func(p *pair, b int) { p.pin(b, false) },
	}
	for name, call := range calls {
		t.Run(name, func(t *testing.T) {
			for b := range 2 {
				each(t, 2, func(p *pair) { call(p, b) })
			}
		})
	}
}

// P11.6: each number that picks, whatever the states of two blocks, with the power there and without.
func TestPick(t *testing.T) {
	for _, n := range picking {
		each(t, 2, func(p *pair) { p.writeback(n) })
		each(t, 2, func(p *pair) { p.evict(n) })
	}
}

// P11.7: whatever the states of two blocks, with the power there and without.
func TestSyncEachState(t *testing.T) {
	each(t, 2, func(p *pair) { p.sync() })
	each(t, 2, func(p *pair) {
		p.sync()
		p.sync()
	})
}

// P11.6: out of none to six, with others between, those of the other kind and pinned ones; till none is left, and once more.
func TestPickOutOfMany(t *testing.T) {
	places := []int{29, 3, 17, 0, 11, 8}
	for many := range len(places) + 1 {
		for _, n := range picking {
			dirty, clean := created(t, 30), created(t, 30)
			for _, b := range places[:many] {
				dirty.write(b, filled(b))
				clean.read(b)
			}
			for _, b := range []int{28, 1, 14} {
				dirty.read(b)
				clean.write(b, filled(b))
			}
			for _, b := range []int{2, 20} {
				clean.read(b)
				clean.pin(b, true)
				dirty.pin(b, true)
			}
			for range many + 1 {
				dirty.writeback(n)
				dirty.same()
				clean.evict(n)
				clean.same()
			}
			if len(dirty.c.Dirty()) != 0 || len(clean.c.Clean()) != 0 {
				t.Fatalf("%d of %d are left, by %d", len(dirty.c.Dirty()), len(clean.c.Clean()), n)
			}
			dirty.through()
			clean.through()
		}
	}
}

// P11.6: with Back's error stand the block and true; the block stays dirty, and the same number picks it again.
func TestWritebackFails(t *testing.T) {
	p := created(t, 9)
	for _, b := range []int{7, 2, 5} {
		p.write(b, filled(b))
	}
	p.pin(5, true)
	p.power(1)
	p.writeback(1)
	if p.d.Acts() != 1 {
		t.Error("what is pinned isn't written back")
	}
	for range 2 {
		for n, want := range []int{2, 7, 2, 7} {
			if b, ok, e := p.c.Writeback(n); b != want || !ok || e != api.ErrPower {
				t.Errorf("Writeback of %d: %d %v %v", n, b, ok, e)
			}
			p.same()
		}
	}
	p.drop(2)
	p.drop(7)
	p.writeback(0)
	p.through()
}

// P11.6: behind Evict a block comes from the disk again.
func TestEvictThenRead(t *testing.T) {
	p := created(t, 3)
	for b := range 3 {
		p.read(b)
		p.below(b, filled(b))
	}
	for b := range 3 {
		p.evict(0)
		p.read(b)
		if x, _ := p.c.Read(b); x != filled(b) {
			t.Errorf("Read of %d: %v", b, x)
		}
		p.below(b, filled(10+b))
		p.pin(b, true)
	}
	p.evict(0)
	p.through()
}

// P11.7: of nothing, one and many a Sync is a write for each that is dirty, and a flush, whatever is clean or pinned.
func TestSync(t *testing.T) {
	for _, n := range []int{1, 2, 7, 2048} {
		for _, many := range []int{0, 1, n / 2, n} {
			p := created(t, n)
			for i := range many {
				p.write(i*5%n, filled(i))
			}
			for b := 0; b < n; b += 3 {
				p.read(b)
				p.pin(b, true)
			}
			dirty := len(p.c.Dirty())
			for _, acts := range []int{dirty + 1, dirty + 2} {
				p.sync()
				if p.d.Acts() != acts || p.d.Waiting() != 0 || len(p.c.Dirty()) != 0 {
					t.Fatalf("%d of %d: %d acts, %d wait, %v dirty", dirty, n, p.d.Acts(), p.d.Waiting(), p.c.Dirty())
				}
				p.same()
			}
			p.through()
		}
	}
}

// P11.7: what waits from elsewhere is made safe by a Sync of nothing, too.
func TestSyncFlushes(t *testing.T) {
	p := created(t, 2)
	p.below(1, filled(1))
	p.sync()
	p.crash()
	if x, e := p.d.Read(1); x != filled(1) || e != api.OK {
		t.Errorf("the disk's Read: %v %v", x, e)
	}
	p.through()
}

// P11.7, P11.8: the power ends at each act of a Sync and just behind it, and each part of what waits comes through; then one more Sync mends all.
func TestSyncWithoutPower(t *testing.T) {
	places := []int{6, 1, 4, 3}
	for many := range len(places) + 1 {
		for after := range many + 3 {
			for flags := range 1 << min(after, many) {
				p := created(t, 8)
				for i, b := range places[:many] {
					p.write(b, filled(i))
				}
				p.read(0)
				p.power(after)
				want, left := api.ErrPower, many-min(after, many)
				if after > many {
					want = api.OK
				}
				if e := p.c.Sync(); e != want || len(p.c.Dirty()) != left || p.d.Acts() != min(after, many+1) {
					t.Fatalf("%d dirty, power for %d: %v, %v dirty, %d acts", many, after, e, p.c.Dirty(), p.d.Acts())
				}
				p.m.sync()
				p.same()
				keep := make([]bool, min(after, many))
				for i := range keep {
					keep[i] = flags>>i&1 == 1
				}
				p.crash(keep...)
				p.same()
				for b := range 8 {
					p.read(b)
				}
				p.sync()
				p.through()
			}
		}
	}
}

// P11.7: they go to the disk rising, one behind the other, in whatever order they were written here.
func TestSyncRises(t *testing.T) {
	for after := range 7 {
		p := created(t, 64)
		rise := []int{0, 9, 10, 31, 32, 63}
		for _, i := range []int{3, 5, 0, 4, 1, 2} {
			p.write(rise[i], filled(i))
		}
		p.power(after)
		p.sync()
		if l := p.c.Dirty(); !slices.Equal(l, rise[min(after, 6):]) {
			t.Errorf("power for %d: %v are left", after, l)
		}
		p.through()
	}
}

// P11.8: a crash behind writes that are in the cache alone leaves the disk as it was; behind a Sync that is OK nothing is lost.
func TestCrash(t *testing.T) {
	for _, synced := range []bool{false, true} {
		p := created(t, 5)
		var want []api.Block
		for b := range 5 {
			p.write(b, filled(b))
			want = append(want, filled(b))
		}
		if synced {
			p.sync()
		} else {
			want = p.d.Safe()
		}
		p.crash()
		p.same()
		if !slices.Equal(p.d.Safe(), want) || !slices.Equal(p.d.Image(), want) {
			t.Errorf("synced %v: the disk has something else", synced)
		}
		for b := range 5 {
			if x, e := p.c.Read(b); x != filled(b) || e != api.OK {
				t.Errorf("Read of %d: %v %v", b, x, e)
			}
		}
		p.through()
	}
}

// P0.4: lists and blocks that were told are the caller's own, the room behind lists too, and stay as they were; a block that was handed in is changed without anything in the cache.
func TestToldIsNew(t *testing.T) {
	p := created(t, 12)
	for b := range 5 {
		p.write(b, filled(b))
		p.read(5 + b)
	}
	dirty, clean := p.c.Dirty(), p.c.Clean()
	for _, tell := range []func() []int{p.c.Dirty, p.c.Clean} {
		one, two := tell(), tell()
		was := slices.Clone(two[:cap(two)])
		for i := range one[:cap(one)] {
			one[:cap(one)][i] = 77
		}
		if !slices.Equal(two[:cap(two)], was) {
			t.Error("two answers share memory")
		}
		p.same()
	}
	p.sync()
	p.drop(6)
	if !slices.Equal(dirty, []int{0, 1, 2, 3, 4}) || !slices.Equal(clean, []int{5, 6, 7, 8, 9}) {
		t.Errorf("what was told has changed: %v, %v", dirty, clean)
	}
	for _, b := range []int{0, 5, 10} {
		x, _ := p.c.Read(b)
		x[0]++
		p.read(b)
		p.c.Write(b, x)
		p.m.write(b, x)
		x[255]++
		p.read(b)
	}
	p.through()
}

// P11.5, P0.4: Dirty, Clean and Disk change nothing, and ask nothing of the disk, dead or not.
func TestAskingChangesNothing(t *testing.T) {
	p := created(t, 3)
	p.write(0, filled(1))
	p.read(1)
	for _, after := range []int{-1, 1, 0} {
		p.power(after)
		for range 3 {
			p.same()
		}
	}
	if p.d.Acts() != 0 {
		t.Errorf("%d acts", p.d.Acts())
	}
	p.through()
}

// rolls tells one number behind the other, the same ones in each run.
type rolls uint32

func (r *rolls) next(n int) int {
	*r = *r*1664525 + 1013904223
	return int(uint32(*r)>>8) % n
}

// P11.8: whatever is pinned, written back, evicted and synced, what was written last is read; behind a Sync it is safe, and a crash takes nothing.
func TestUnseen(t *testing.T) {
	for seed := range 40 {
		r := rolls(seed)
		n := 1 + r.next(12)
		p := created(t, n)
		want := p.d.Image()
		for i := range 600 {
			b := r.next(n)
			switch r.next(8) {
			case 0, 1:
				want[b] = filled(i)
				p.write(b, want[b])
			case 2:
				p.pin(b, r.next(2) == 1)
			case 3:
				p.back(b)
			case 4:
				p.writeback(r.next(30) - 5)
			case 5, 6:
				p.evict(r.next(30) - 5)
			default:
				if r.next(4) > 0 {
					break
				}
				p.sync()
				if len(p.c.Dirty()) != 0 || !slices.Equal(p.d.Safe(), want) {
					t.Fatalf("run %d, call %d: something isn't safe behind a Sync", seed, i)
				}
				p.crash()
			}
			if x, e := p.c.Read(b); x != want[b] || e != api.OK {
				t.Fatalf("run %d, call %d: Read of %d: %v %v", seed, i, b, x, e)
			}
			p.m.read(b)
			p.same()
		}
		p.through()
	}
}

// P11.1 to P11.7: long runs of calls of all kinds, with a disk that dies and crashes and that others write to, held against the model behind each.
func TestLongRuns(t *testing.T) {
	for seed := range 80 {
		r := rolls(1000 + seed)
		n := 1 + r.next(8)
		p := created(t, n)
		for i := range 500 {
			b := r.next(n+2) - 1
			switch r.next(14) {
			case 0, 1, 2:
				p.read(b)
			case 3, 4, 5:
				p.write(b, filled(i))
			case 6:
				p.back(b)
			case 7:
				p.drop(b)
			case 8:
				p.pin(b, r.next(3) == 0)
			case 9:
				p.writeback(r.next(30) - 5)
			case 10:
				p.evict(r.next(30) - 5)
			case 11:
				p.sync()
			case 12:
				p.below(b, filled(i))
			default:
				if r.next(2) == 0 {
					p.power(r.next(12) - 3)
				} else {
					p.crash(r.next(2) == 0, r.next(2) == 0, r.next(2) == 0)
				}
			}
			p.same()
		}
		p.through()
	}
}
