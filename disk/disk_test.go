package disk

import (
	"bytes"
	"math"
	"slices"
	"testing"

	"shunt/api"
)

// full is a block whose bytes are all n.
func full(n byte) []byte { return bytes.Repeat([]byte{n}, api.Block) }

func made(t *testing.T, blocks int) *Disk {
	t.Helper()
	d, e := New(blocks)
	if e != api.OK || d == nil {
		t.Fatalf("New(%d): %v, %v", blocks, d, e)
	}
	return d
}

// is holds what a call answered against what it should have.
func is[T comparable](t *testing.T, what string, got, want T) {
	t.Helper()
	if got != want {
		t.Errorf("%s: %v, want %v", what, got, want)
	}
}

// has wants blocks of these bytes, from block 0 on.
func has(t *testing.T, what string, d *Disk, want ...byte) {
	t.Helper()
	for at, n := range want {
		b, e := d.Read(at)
		if e != api.OK || !bytes.Equal(b, full(n)) {
			t.Errorf("%s: block %d is %v.., %v, want %v..", what, at, b[:min(1, len(b))], e, n)
		}
	}
}

func waits(t *testing.T, what string, d *Disk, want ...int) {
	t.Helper()
	if got := d.Pending(); !slices.Equal(got, want) {
		t.Errorf("%s: %v held back, want %v", what, got, want)
	}
}

func write(t *testing.T, d *Disk, at int, n byte) {
	t.Helper()
	is(t, "Write", d.Write(at, full(n)), api.OK)
}

func TestP301New(t *testing.T) {
	for _, blocks := range []int{1, 2, 97, api.MaxBlocks} {
		d := made(t, blocks)
		is(t, "Blocks", d.Blocks(), blocks)
		is(t, "On", d.On(), true)
		waits(t, "new", d)
		has(t, "new", d, make([]byte, blocks)...)
		for range 100 {
			is(t, "Flush without a fuse", d.Flush(), api.OK)
		}
	}
	for _, blocks := range []int{0, -1, api.MaxBlocks + 1, math.MinInt, math.MaxInt} {
		if d, e := New(blocks); d != nil || e != api.ErrArg {
			t.Errorf("New(%d): %v, %v", blocks, d, e)
		}
	}
}

func TestP301BlocksWithoutPower(t *testing.T) {
	d := made(t, 3)
	d.Fuse(0)
	is(t, "Blocks", d.Blocks(), 3)
	d.Crash(nil)
	is(t, "Blocks", d.Blocks(), 3)
}

func TestP302Read(t *testing.T) {
	d := made(t, 3)
	write(t, d, 2, 7)
	write(t, d, 0, 5)
	has(t, "written", d, 5, 0, 7)
	write(t, d, 2, 8)
	has(t, "written again", d, 5, 0, 8)
	d.Flush()
	has(t, "flushed", d, 5, 0, 8)
	for _, at := range []int{-1, 3, math.MinInt, math.MaxInt, math.MaxInt / api.Block, -api.Block} {
		if b, e := d.Read(at); b != nil || e != api.ErrBlock {
			t.Errorf("Read(%d): %v, %v", at, b, e)
		}
	}
	d.Fuse(0)
	for _, at := range []int{0, 3, -1} {
		if b, e := d.Read(at); b != nil || e != api.ErrOff {
			t.Errorf("Read(%d) without power: %v, %v", at, b, e)
		}
	}
}

func TestP302EachByte(t *testing.T) {
	d := made(t, 2)
	b := make([]byte, api.Block)
	for i := range b {
		b[i] = byte(i * 7)
	}
	is(t, "Write", d.Write(0, b), api.OK)
	if got, _ := d.Read(0); !bytes.Equal(got, b) {
		t.Errorf("read %v", got)
	}
	if got, _ := d.Read(1); !bytes.Equal(got, full(0)) {
		t.Errorf("the next block: %v", got)
	}
}

func TestP303Write(t *testing.T) {
	d := made(t, 2)
	wrong := [][]byte{nil, {}, make([]byte, 3), make([]byte, api.Block-1), make([]byte, api.Block+1), make([]byte, 2*api.Block)}
	for _, b := range wrong {
		is(t, "Write of a wrong length", d.Write(0, b), api.ErrArg)
		is(t, "of a block that is not there", d.Write(2, b), api.ErrBlock)
	}
	for _, at := range []int{-1, 2, math.MaxInt, math.MinInt, math.MaxInt / api.Block} {
		is(t, "Write", d.Write(at, full(1)), api.ErrBlock)
	}
	waits(t, "refused", d)
	has(t, "refused", d, 0, 0)
	d.Fuse(0)
	is(t, "without power", d.Write(0, full(1)), api.ErrOff)
	is(t, "without power, of a block that is not there", d.Write(2, nil), api.ErrOff)
	d.Crash([]int{1})
	has(t, "refused", d, 0, 0)
}

func TestP303Flush(t *testing.T) {
	d := made(t, 2)
	write(t, d, 0, 1)
	write(t, d, 1, 2)
	write(t, d, 1, 3)
	is(t, "Flush", d.Flush(), api.OK)
	waits(t, "flushed", d)
	write(t, d, 0, 4)
	d.Crash(nil)
	has(t, "what was flushed stays", d, 1, 3)
	write(t, d, 0, 5)
	d.Fuse(0)
	is(t, "Flush without power", d.Flush(), api.ErrOff)
	waits(t, "not flushed", d, 0)
	d.Crash(nil)
	has(t, "not flushed", d, 1, 3)
}

func TestP303MostHeldBack(t *testing.T) {
	d := made(t, 2)
	b := full(1)
	for range api.MaxPending {
		if e := d.Write(1, b); e != api.OK {
			t.Fatal(e)
		}
	}
	is(t, "fuse", d.Fuse(1), api.OK)
	is(t, "one more", d.Write(1, full(2)), api.ErrLong)
	is(t, "a wrong length comes first", d.Write(1, nil), api.ErrArg)
	is(t, "a wrong block comes first", d.Write(2, b), api.ErrBlock)
	is(t, "a refused write is no step", d.On(), true)
	has(t, "refused", d, 0, 1)
	is(t, "held back", len(d.Pending()), api.MaxPending)
	is(t, "Flush", d.Flush(), api.OK)
	is(t, "On", d.On(), false)
	d.Crash(nil)
	write(t, d, 1, 3)
	waits(t, "room again", d, 1)
}

func TestP304Fuse(t *testing.T) {
	for steps := range 6 {
		d := made(t, 1)
		is(t, "Fuse", d.Fuse(steps), api.OK)
		for i := range steps {
			is(t, "On", d.On(), true)
			if i%3 == 2 {
				is(t, "Flush", d.Flush(), api.OK)
			} else {
				write(t, d, 0, byte(i))
			}
		}
		is(t, "On", d.On(), false)
		is(t, "Write", d.Write(0, full(9)), api.ErrOff)
		is(t, "Flush", d.Flush(), api.ErrOff)
		is(t, "Fuse", d.Fuse(-1), api.ErrOff)
		is(t, "Fuse", d.Fuse(3), api.ErrOff)
		is(t, "a wrong fuse comes first", d.Fuse(-2), api.ErrArg)
		is(t, "On", d.On(), false)
	}
}

func TestP304FuseRefused(t *testing.T) {
	d := made(t, 1)
	is(t, "Fuse", d.Fuse(2), api.OK)
	for _, steps := range []int{-2, -3, math.MinInt} {
		is(t, "Fuse", d.Fuse(steps), api.ErrArg)
	}
	write(t, d, 0, 1)
	is(t, "the old fuse still goes", d.On(), true)
	write(t, d, 0, 2)
	is(t, "and ends", d.On(), false)
}

func TestP304NoSteps(t *testing.T) {
	d := made(t, 1)
	d.Fuse(1)
	d.Read(0)
	d.Read(5)
	d.Write(0, nil)
	d.Write(1, full(1))
	d.Pending()
	d.Blocks()
	d.Twin().Flush()
	is(t, "On", d.On(), true)
	write(t, d, 0, 1)
	is(t, "On", d.On(), false)
}

func TestP304NewFuse(t *testing.T) {
	d := made(t, 1)
	d.Fuse(1)
	is(t, "a longer one", d.Fuse(2), api.OK)
	write(t, d, 0, 1)
	is(t, "On", d.On(), true)
	is(t, "none", d.Fuse(-1), api.OK)
	for range 50 {
		write(t, d, 0, 1)
	}
	is(t, "On", d.On(), true)
	is(t, "the longest", d.Fuse(math.MaxInt), api.OK)
	is(t, "Flush", d.Flush(), api.OK)
	is(t, "at once", d.Fuse(0), api.OK)
	is(t, "On", d.On(), false)
}

func TestP305Pending(t *testing.T) {
	d := made(t, 4)
	for _, at := range []int{3, 0, 3, 2, 3} {
		write(t, d, at, byte(at))
	}
	waits(t, "written", d, 3, 0, 3, 2, 3)
	d.Fuse(1)
	write(t, d, 1, 1)
	is(t, "On", d.On(), false)
	waits(t, "without power", d, 3, 0, 3, 2, 3, 1)
	d.Crash(nil)
	waits(t, "crashed", d)
}

func TestP306Crash(t *testing.T) {
	for _, l := range []struct {
		keep []int
		want []byte
	}{
		{nil, []byte{1, 2}},
		{[]int{}, []byte{1, 2}},
		{[]int{0, 0, 0, 0}, []byte{1, 2}},
		{[]int{1}, []byte{3, 2}},
		{[]int{0, 1}, []byte{1, 4}},
		{[]int{0, 0, 7}, []byte{5, 2}},
		{[]int{1, 0, 1}, []byte{5, 2}},
		{[]int{1, 1, 1, 1}, []byte{5, 6}},
		{[]int{1, 1, -1, -1}, []byte{3, 4}},
		{[]int{math.MinInt, math.MaxInt, 0, 0, 1, 1, 1}, []byte{1, 4}},
		{[]int{1, 1, 1, 1, 1, 1, 1}, []byte{5, 6}},
	} {
		for _, fuse := range []int{4, 5} { // without power, and with it
			d := made(t, 2)
			write(t, d, 0, 1)
			write(t, d, 1, 2)
			d.Flush()
			d.Fuse(fuse)
			for i, n := range []byte{3, 4, 5, 6} {
				write(t, d, i%2, n)
			}
			is(t, "On", d.On(), fuse == 5)
			d.Crash(l.keep)
			has(t, "crashed", d, l.want...)
			waits(t, "crashed", d)
			is(t, "On", d.On(), true)
			is(t, "no fuse", d.Flush(), api.OK)
			is(t, "no fuse", d.On(), true)
			d.Crash([]int{1, 1, 1, 1})
			has(t, "what a crash left is fast", d, l.want...)
		}
	}
}

func TestP306CrashIsFast(t *testing.T) {
	d := made(t, 2)
	write(t, d, 0, 1)
	d.Crash([]int{1})
	write(t, d, 0, 2)
	write(t, d, 1, 3)
	d.Crash(nil)
	has(t, "what was kept stays, what was not does not come back", d, 1, 0)
	d.Crash([]int{1, 1, 1})
	has(t, "nothing is held back", d, 1, 0)
}

// TestP307Twin takes twins at each state that a disk can be in, and holds both against each other behind the same calls.
func TestP307Twin(t *testing.T) {
	for _, fuse := range []int{-1, 0, 2, 3, 5} {
		d := made(t, 2)
		write(t, d, 0, 1)
		d.Flush()
		d.Fuse(fuse)
		d.Write(0, full(2))
		d.Write(1, full(3))
		twin := d.Twin()
		is(t, "Blocks", twin.Blocks(), d.Blocks())
		is(t, "On", twin.On(), d.On())
		waits(t, "twin", twin, d.Pending()...)
		for range 4 {
			is(t, "Write", twin.Write(1, full(4)), d.Write(1, full(4)))
			is(t, "On", twin.On(), d.On())
			a, e := d.Read(0)
			b, f := twin.Read(0)
			if !bytes.Equal(a, b) || e != f {
				t.Errorf("fuse %d: %v, %v read from the twin, want %v, %v", fuse, b, f, a, e)
			}
		}
		waits(t, "twin", twin, d.Pending()...)
		keep := []int{1, 0, 0, 1}
		d.Crash(keep)
		twin.Crash(keep)
		for at := range 2 {
			a, _ := d.Read(at)
			b, _ := twin.Read(at)
			if !bytes.Equal(a, b) {
				t.Errorf("fuse %d: crashed, block %d is %v.. of the twin, want %v..", fuse, at, b[0], a[0])
			}
		}
	}
}

func TestP307NothingInCommon(t *testing.T) {
	for _, of := range []func(a, b *Disk) (told, other *Disk){
		func(a, b *Disk) (*Disk, *Disk) { return a, b },
		func(a, b *Disk) (*Disk, *Disk) { return b, a },
	} {
		d := made(t, 2)
		write(t, d, 0, 1)
		told, other := of(d, d.Twin())
		write(t, told, 0, 2)
		write(t, told, 1, 3)
		has(t, "told", told, 2, 3)
		has(t, "other", other, 1, 0)
		waits(t, "told", told, 0, 0, 1)
		waits(t, "other", other, 0)
		write(t, other, 1, 4)
		waits(t, "told", told, 0, 0, 1)
		has(t, "told", told, 2, 3)
		told.Fuse(0)
		is(t, "the other's power", other.On(), true)
		told.Crash([]int{0, 1, 1})
		has(t, "told", told, 2, 3)
		has(t, "other", other, 1, 4)
		waits(t, "other", other, 0, 1)
		other.Crash([]int{1})
		has(t, "other", other, 1, 0)
	}
}

// TestP307SpareRoom: what one of two disks holds back does not lie in room that the other one has to spare.
func TestP307SpareRoom(t *testing.T) {
	for held := range 9 {
		d := made(t, 3)
		for range held {
			write(t, d, 0, 1)
		}
		twin := d.Twin()
		write(t, d, 1, 2)
		write(t, twin, 2, 3)
		is(t, "held back last", d.Pending()[held], 1)
		is(t, "held back last by the twin", twin.Pending()[held], 2)
		keep := make([]int, held+1)
		keep[held] = 1
		d.Crash(keep)
		has(t, "crashed", d, 0, 2, 0)
		twin.Crash(keep)
		has(t, "crashed", twin, 0, 0, 3)
	}
}

func TestP308HandedIn(t *testing.T) {
	d := made(t, 2)
	room := append(full(1), 77, 78)
	b := room[:api.Block]
	is(t, "Write", d.Write(0, b), api.OK)
	if !bytes.Equal(room, append(full(1), 77, 78)) {
		t.Error("Write changed what was handed in")
	}
	b[0], b[9] = 50, 50
	has(t, "not kept", d, 1, 0)
	d.Crash([]int{1})
	has(t, "not kept for a crash", d, 1, 0)
	keep := []int{1, 2, 3}
	write(t, d, 0, 2)
	d.Crash(keep[:2])
	if !slices.Equal(keep, []int{1, 2, 3}) {
		t.Error("Crash changed what was handed in")
	}
	write(t, d, 0, 3)
	d.Crash(nil)
	has(t, "keep is not kept", d, 2, 0)
}

func TestP308Answers(t *testing.T) {
	d := made(t, 2)
	write(t, d, 0, 1)
	b, _ := d.Read(0)
	c, _ := d.Read(0)
	b[0] = 9
	b = append(b, 8, 8, 8)
	if c[0] != 1 {
		t.Error("two answers of Read share memory")
	}
	has(t, "what was read was turned", d, 1, 0)
	p, q := d.Pending(), d.Pending()
	p[0] = 5
	is(t, "Pending", q[0], 0)
	waits(t, "what was told was turned", d, 0)
	write(t, d, 0, 2)
	d.Crash([]int{1})
	has(t, "crashed", d, 1, 0)
	write(t, d, 0, 3)
	d.Crash(nil)
	has(t, "crashed", d, 1, 0)
}

func TestP308CallsAlone(t *testing.T) {
	a, b := made(t, 1), made(t, 1)
	write(t, a, 0, 1)
	a.Fuse(0)
	is(t, "another disk's power", b.On(), true)
	has(t, "another disk", b, 0)
	waits(t, "another disk", b)
}

// TestNoDisk: no call panics, also of a disk that is none.
func TestNoDisk(t *testing.T) {
	for _, d := range []*Disk{nil, {}} {
		is(t, "Blocks", d.Blocks(), 0)
		is(t, "On", d.On(), false)
		waits(t, "none", d)
		is(t, "Write", d.Write(0, full(1)), api.ErrOff)
		is(t, "Flush", d.Flush(), api.ErrOff)
		is(t, "Fuse", d.Fuse(-2), api.ErrArg)
		is(t, "Fuse", d.Fuse(1), api.ErrOff)
		if b, e := d.Read(0); b != nil || e != api.ErrOff {
			t.Errorf("Read: %v, %v", b, e)
		}
		is(t, "Blocks", d.Twin().Blocks(), 0)
		d.Crash([]int{1})
		is(t, "Blocks", d.Blocks(), 0)
		if _, e := d.Read(0); e == api.OK {
			t.Error("read from no disk")
		}
	}
}

func TestExamples(t *testing.T) {
	d := made(t, 2)
	is(t, "Write", d.Write(0, full(1)), api.OK)
	is(t, "Write", d.Write(1, full(2)), api.OK)
	waits(t, "Pending", d, 0, 1)
	has(t, "Read", d, 1, 2)
	d.Crash([]int{0, 1})
	has(t, "Read", d, 0, 2)
	write(t, d, 0, 1)
	write(t, d, 0, 2)
	d.Crash([]int{1})
	has(t, "Read", d, 1, 2)
	is(t, "Fuse", d.Fuse(2), api.OK)
	is(t, "Write", d.Write(0, full(1)), api.OK)
	is(t, "Flush", d.Flush(), api.OK)
	is(t, "Write", d.Write(1, full(2)), api.ErrOff)
	is(t, "On", d.On(), false)
	d.Crash(nil)
	_, e := d.Read(2)
	is(t, "Read", e, api.ErrBlock)
	is(t, "Write", d.Write(0, make([]byte, 3)), api.ErrArg)
}

// plain is a disk as the chapter's words tell it, without anything clever: its blocks are one number each.
type plain struct {
	fast, last []byte
	at         []int
	what       []byte
	left       int
	off        bool
}

func (p *plain) step() {
	if p.left > 0 {
		p.left--
		p.off = p.left == 0
	}
}

func (p *plain) write(at int, n byte) api.Errno {
	if p.off {
		return api.ErrOff
	}
	p.last[at] = n
	p.at, p.what = append(p.at, at), append(p.what, n)
	p.step()
	return api.OK
}

func (p *plain) flush() api.Errno {
	if p.off {
		return api.ErrOff
	}
	copy(p.fast, p.last)
	p.at, p.what = nil, nil
	p.step()
	return api.OK
}

func (p *plain) fuse(steps int) api.Errno {
	if p.off {
		return api.ErrOff
	}
	p.left, p.off = steps, steps == 0
	return api.OK
}

func (p *plain) crash(keep []int) {
	for i, at := range p.at {
		if i < len(keep) && keep[i] > 0 {
			p.fast[at] = p.what[i]
		}
	}
	copy(p.last, p.fast)
	p.at, p.what, p.left, p.off = nil, nil, -1, false
}

// TestLikePlain tells a disk and a plain one the same long row of calls.
func TestLikePlain(t *testing.T) {
	const blocks = 5
	seed := uint32(1)
	next := func(n int) int {
		seed = seed*1664525 + 1013904223
		return int(seed>>8) % n
	}
	d := made(t, blocks)
	p := &plain{fast: make([]byte, blocks), last: make([]byte, blocks), left: -1}
	for range 6000 {
		switch next(12) {
		case 0:
			is(t, "Flush", d.Flush(), p.flush())
		case 1:
			steps := next(12) - 1
			is(t, "Fuse", d.Fuse(steps), p.fuse(steps))
		case 2:
			keep := make([]int, next(12))
			for i := range keep {
				keep[i] = next(3) - 1
			}
			d.Crash(keep)
			p.crash(keep)
		case 3:
			d = d.Twin()
		default:
			at, n := next(blocks), byte(next(256))
			is(t, "Write", d.Write(at, full(n)), p.write(at, n))
		}
		is(t, "On", d.On(), !p.off)
		waits(t, "Pending", d, p.at...)
		if d.On() {
			has(t, "Read", d, p.last...)
		}
		if t.Failed() {
			return
		}
	}
}
