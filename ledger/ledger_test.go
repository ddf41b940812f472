package ledger

import (
	"bytes"
	"math"
	"slices"
	"testing"

	"shunt/api"
	"shunt/disk"
)

// full is a block whose bytes are all n.
func full(n byte) []byte { return bytes.Repeat([]byte{n}, api.Block) }

// put is a put of such a block.
func put(at int, n byte) api.Put { return api.Put{At: at, Data: full(n)} }

// is holds what a call answered against what it should have.
func is[T comparable](t *testing.T, what string, got, want T) {
	t.Helper()
	if got != want {
		t.Errorf("%s: %v, want %v", what, got, want)
	}
}

// bare is a disk with room for so many of a ledger's blocks.
func bare(t *testing.T, blocks int) *disk.Disk {
	t.Helper()
	d, e := disk.New(api.Log + blocks)
	if e != api.OK {
		t.Fatal(e)
	}
	return d
}

func made(t *testing.T, blocks int) (*disk.Disk, *Ledger) {
	t.Helper()
	d := bare(t, blocks)
	l, e := Format(d)
	if l == nil || e != api.OK {
		t.Fatalf("Format: %v, %v", l, e)
	}
	return d, l
}

func opened(t *testing.T, d *disk.Disk) *Ledger {
	t.Helper()
	l, e := Open(d)
	if l == nil || e != api.OK {
		t.Fatalf("Open: %v, %v", l, e)
	}
	return l
}

func commit(t *testing.T, l *Ledger, puts ...api.Put) {
	t.Helper()
	is(t, "Commit", l.Commit(puts), api.OK)
}

// refused wants an error, and no ledger.
func refused(t *testing.T, what string, l *Ledger, e, want api.Errno) {
	t.Helper()
	if l != nil || e != want {
		t.Errorf("%s: %v, %v, want %v", what, l, e, want)
	}
}

// told are the blocks of a ledger, each of which must be of one byte.
func told(t *testing.T, l *Ledger) []byte {
	t.Helper()
	var all []byte
	for at := range l.Blocks() {
		b, e := l.Read(at)
		if e != api.OK || len(b) != api.Block || !bytes.Equal(b, full(b[0])) {
			t.Fatalf("block %d: %v, %v", at, b, e)
		}
		all = append(all, b[0])
	}
	return all
}

func has(t *testing.T, what string, l *Ledger, want ...byte) {
	t.Helper()
	if got := told(t, l); !bytes.Equal(got, want) {
		t.Errorf("%s: %v, want %v", what, got, want)
	}
}

// isOff wants a ledger that answers api.ErrOff wherever that is the first error.
func isOff(t *testing.T, what string, l *Ledger) {
	t.Helper()
	is(t, what+": Commit", l.Commit([]api.Put{put(0, 1)}), api.ErrOff)
	is(t, what+": Sync", l.Sync(), api.ErrOff)
	for _, at := range []int{0, -1, l.Blocks()} {
		if b, e := l.Read(at); b != nil || e != api.ErrOff {
			t.Errorf("%s: Read(%d): %v, %v", what, at, b, e)
		}
	}
	is(t, what+": Commit of no puts", l.Commit(nil), api.ErrArg)
	is(t, what+": Commit of no block", l.Commit([]api.Put{put(-1, 1)}), api.ErrBlock)
}

// keeps goes over what a crash may keep of what a disk holds back: all that there is, if it is little; else some of all kinds.
func keeps(d *disk.Disk) [][]int {
	n := len(d.Pending())
	var all [][]int
	if n <= 6 {
		for which := range 1 << n {
			keep := make([]int, n)
			for i := range keep {
				keep[i] = which >> i & 1
			}
			all = append(all, keep)
		}
		return all
	}
	for i := range n {
		one, first, but := make([]int, n), make([]int, n), make([]int, n)
		for j := range n {
			one[j] = flag(j == i)
			first[j] = flag(j < i)
			but[j] = flag(j != i)
		}
		all = append(all, one, first, but)
	}
	return append(all, make([]int, n))
}

func flag(yes bool) int {
	if yes {
		return 1
	}
	return 0
}

// litter writes bytes of n into all blocks of a disk.
func litter(t *testing.T, d *disk.Disk, n byte) {
	t.Helper()
	for at := range d.Blocks() {
		is(t, "Write", d.Write(at, full(n)), api.OK)
	}
}

func TestP401Format(t *testing.T) {
	for _, blocks := range []int{1, 2, 4, 100, api.MaxBlocks - api.Log} {
		d, l := made(t, blocks)
		is(t, "Blocks", l.Blocks(), blocks)
		has(t, "formatted", l, make([]byte, blocks)...)
		d.Crash(nil)
		has(t, "it is synced", opened(t, d), make([]byte, blocks)...)
	}
	for _, blocks := range []int{1, 2, api.Log - 1, api.Log} {
		d, _ := disk.New(blocks)
		l, e := Format(d)
		refused(t, "Format of a small disk", l, e, api.ErrArg)
		is(t, "nothing is written", len(d.Pending()), 0)
		d.Fuse(0)
		l, e = Format(d)
		refused(t, "no power comes first", l, e, api.ErrOff)
	}
}

func TestP401Gone(t *testing.T) {
	for _, flushed := range []bool{true, false} {
		d := bare(t, 3)
		litter(t, d, 7)
		if flushed {
			d.Flush()
		}
		l, e := Format(d)
		is(t, "Format", e, api.OK)
		has(t, "what was there is gone", l, 0, 0, 0)
		d.Crash(nil)
		has(t, "gone for good", opened(t, d), 0, 0, 0)
	}
	d, l := made(t, 3)
	commit(t, l, put(0, 1), put(1, 2))
	l, e := Format(d)
	is(t, "Format anew", e, api.OK)
	has(t, "the older ledger's blocks are gone", l, 0, 0, 0)
	d.Crash(nil)
	has(t, "gone for good", opened(t, d), 0, 0, 0)
}

func TestP401PowerFails(t *testing.T) {
	fails := 0
	for fuse := 0; ; fuse++ {
		d, l := made(t, 2)
		commit(t, l, put(0, 1), put(1, 2))
		d.Fuse(fuse)
		l, e := Format(d)
		if e == api.OK {
			is(t, "On", d.On(), true)
			has(t, "formatted", l, 0, 0)
			break
		}
		fails++
		refused(t, "Format", l, e, api.ErrOff)
		is(t, "On", d.On(), false)
		for _, keep := range keeps(d) {
			twin := d.Twin()
			twin.Crash(keep)
			l, e := Open(twin)
			if e == api.OK {
				if got := told(t, l); !bytes.Equal(got, []byte{1, 2}) && !bytes.Equal(got, []byte{0, 0}) {
					t.Errorf("fuse %d: an interrupted Format left %v", fuse, got)
				}
				continue
			}
			refused(t, "Open", l, e, api.ErrRaw)
			l, e = Format(twin)
			is(t, "Format behind it", e, api.OK)
			has(t, "formatted", l, 0, 0)
		}
	}
	if fails < 3 {
		t.Errorf("Format failed with %d fuses", fails)
	}
}

// TestP402Raw opens disks that were not formatted: they are not touched.
func TestP402Raw(t *testing.T) {
	var disks []*disk.Disk
	for _, n := range []byte{0, 1, 0x80, 0xff} {
		for _, blocks := range []int{-api.Log + 1, 0, 1, 5} {
			d := bare(t, blocks)
			litter(t, d, n)
			flushed := d.Twin()
			flushed.Flush()
			disks = append(disks, d, flushed)
		}
	}
	// A ledger's blocks on a disk of another size do not make that one a ledger's.
	was, l := made(t, 3)
	commit(t, l, put(0, 1))
	for _, blocks := range []int{2, 4} {
		d := bare(t, blocks)
		for at := range min(d.Blocks(), was.Blocks()) {
			b, _ := was.Read(at)
			d.Write(at, b)
		}
		disks = append(disks, d)
	}
	// Nor does what begins as a head does, but goes on otherwise.
	head, _ := was.Read(0)
	for _, i := range []int{0, 17, 18, 19, 20, 21, 22, 23, 40, api.Block - 1} {
		d := bare(t, 3)
		turned := bytes.Clone(head)
		turned[i] ^= 0x40
		d.Write(0, turned)
		disks = append(disks, d)
	}
	for _, d := range disks {
		d.Fuse(1)
		before := d.Twin()
		l, e := Open(d)
		refused(t, "Open", l, e, api.ErrRaw)
		is(t, "it made no step", d.On(), true)
		is(t, "what is held back stays", slices.Equal(d.Pending(), before.Pending()), true)
		for at := range d.Blocks() {
			b, _ := d.Read(at)
			c, _ := before.Read(at)
			is(t, "the block stays", bytes.Equal(b, c), true)
		}
		d.Fuse(0)
		l, e = Open(d)
		refused(t, "Open without power", l, e, api.ErrOff)
	}
}

// TestP402Broken opens disks that were formatted, and of which some byte of a ledger's own was turned behind its back: whatever it answers, it ends.
func TestP402Broken(t *testing.T) {
	d, l := made(t, 3)
	commit(t, l, put(0, 1), put(2, 3))
	for at := range api.Log {
		b, _ := d.Read(at)
		for i := range b {
			if i > 130 && i%50 != 0 {
				continue
			}
			for _, n := range []byte{0, 1, 2, 41, 0xff} {
				broken := bytes.Clone(b)
				broken[i] = n
				twin := d.Twin()
				twin.Write(at, broken)
				l, e := Open(twin)
				if e != api.OK {
					refused(t, "Open", l, e, api.ErrRaw)
					continue
				}
				is(t, "Blocks", l.Blocks(), 3)
				is(t, "Commit", l.Commit([]api.Put{put(1, 1)}), api.OK)
			}
		}
	}
}

func TestP402Open(t *testing.T) {
	d, l := made(t, 3)
	has(t, "opened", opened(t, d), 0, 0, 0)
	l = opened(t, d)
	commit(t, l, put(2, 5))
	is(t, "Blocks", opened(t, d).Blocks(), 3)
	has(t, "opened", opened(t, d), 0, 0, 5)
	d.Crash(nil)
	has(t, "an Open is a Sync", opened(t, d), 0, 0, 5)
}

func TestP402PowerFails(t *testing.T) {
	d, l := made(t, 3)
	commit(t, l, put(0, 1), put(1, 2))
	for fuse := 0; ; fuse++ {
		twin := d.Twin()
		twin.Fuse(fuse)
		l, e := Open(twin)
		if e == api.OK {
			is(t, "On", twin.On(), true)
			has(t, "opened", l, 1, 2, 0)
			return
		}
		refused(t, "Open", l, e, api.ErrOff)
		is(t, "On", twin.On(), false)
		twin.Crash(nil)
		has(t, "opened anew", opened(t, twin), 1, 2, 0)
	}
}

func TestP403Read(t *testing.T) {
	d, l := made(t, 3)
	b := make([]byte, api.Block)
	for i := range b {
		b[i] = byte(i * 7)
	}
	commit(t, l, api.Put{At: 2, Data: b}, put(0, 9))
	for _, l := range []*Ledger{l, opened(t, d)} {
		got, e := l.Read(2)
		if e != api.OK || !bytes.Equal(got, b) {
			t.Errorf("Read: %v, %v", got, e)
		}
		for at, n := range []byte{9, 0} {
			if got, e := l.Read(at); e != api.OK || !bytes.Equal(got, full(n)) {
				t.Errorf("Read(%d): %v, %v", at, got, e)
			}
		}
		for _, at := range []int{-1, 3, -api.Log, -api.Log + 1, api.Log, math.MinInt, math.MaxInt, math.MaxInt - api.Log + 1} {
			if b, e := l.Read(at); b != nil || e != api.ErrBlock {
				t.Errorf("Read(%d): %v, %v", at, b, e)
			}
		}
	}
	d.Fuse(0)
	isOff(t, "without power", l)
	is(t, "Blocks", l.Blocks(), 3)
}

func TestP404Commit(t *testing.T) {
	d, l := made(t, 4)
	commit(t, l, put(3, 1))
	has(t, "one block", l, 0, 0, 0, 1)
	commit(t, l, put(3, 2), put(0, 3), put(2, 4))
	has(t, "in any order", l, 3, 0, 4, 2)
	commit(t, l, put(3, 2), put(0, 3), put(2, 4))
	has(t, "the same anew", l, 3, 0, 4, 2)
	for n := range byte(20) {
		commit(t, l, put(1, n), put(2, n+1))
		has(t, "again and again", l, 3, n, n+1, 2)
	}
	has(t, "opened", opened(t, d), 3, 19, 20, 2)
}

func TestP404MostPuts(t *testing.T) {
	d, l := made(t, api.MaxPuts+1)
	want := make([]byte, api.MaxPuts+1)
	var puts []api.Put
	for i := range api.MaxPuts {
		want[api.MaxPuts-i] = byte(i + 1)
		puts = append(puts, put(api.MaxPuts-i, byte(i+1)))
	}
	commit(t, l, puts...)
	has(t, "committed", l, want...)
	is(t, "one too many", l.Commit(append(puts, put(0, 1))), api.ErrArg)
	has(t, "refused", l, want...)
	d.Crash(nil)
	has(t, "opened", opened(t, d), want...)
	d, l = made(t, api.MaxBlocks-api.Log)
	commit(t, l, put(api.MaxBlocks-api.Log-1, 8), put(255, 6), put(256, 7))
	d.Crash(nil)
	l = opened(t, d)
	for at, n := range map[int]byte{254: 0, 255: 6, 256: 7, 257: 0, api.MaxBlocks - api.Log - 1: 8} {
		if b, e := l.Read(at); e != api.OK || !bytes.Equal(b, full(n)) {
			t.Errorf("block %d: %v, %v", at, b[:min(1, len(b))], e)
		}
	}
}

func TestP404Refused(t *testing.T) {
	d, l := made(t, 4)
	commit(t, l, put(0, 1))
	short, long := api.Put{At: 1, Data: make([]byte, api.Block-1)}, api.Put{At: 1, Data: make([]byte, api.Block+1)}
	for i, x := range []struct {
		puts []api.Put
		want api.Errno
	}{
		{nil, api.ErrArg},
		{[]api.Put{}, api.ErrArg},
		{[]api.Put{short}, api.ErrArg},
		{[]api.Put{long}, api.ErrArg},
		{[]api.Put{{At: 1}}, api.ErrArg},
		{[]api.Put{put(0, 2), short}, api.ErrArg},
		{[]api.Put{put(0, 2), put(1, 2), put(0, 2)}, api.ErrArg},
		{[]api.Put{put(1, 2), put(1, 2)}, api.ErrArg},
		{[]api.Put{put(4, 2), put(4, 2)}, api.ErrArg},
		{[]api.Put{put(4, 2), put(0, 2), put(0, 2)}, api.ErrArg},
		{[]api.Put{put(-1, 2), short}, api.ErrArg},
		{[]api.Put{put(4, 2)}, api.ErrBlock},
		{[]api.Put{put(-1, 2)}, api.ErrBlock},
		{[]api.Put{put(0, 2), put(-api.Log, 2)}, api.ErrBlock},
		{[]api.Put{put(0, 2), put(api.Log, 2)}, api.ErrBlock},
		{[]api.Put{put(math.MaxInt, 2)}, api.ErrBlock},
		{[]api.Put{put(math.MinInt, 2)}, api.ErrBlock},
		{[]api.Put{put(math.MaxInt-api.Log+1, 2)}, api.ErrBlock},
		{slices.Repeat([]api.Put{put(9, 2)}, api.MaxPuts+1), api.ErrArg},
	} {
		if e := l.Commit(x.puts); e != x.want {
			t.Errorf("%d: Commit: %v, want %v", i, e, x.want)
		}
		has(t, "refused", l, 1, 0, 0, 0)
		is(t, "nothing is held back", len(d.Pending()), 0)
		twin := d.Twin()
		off := opened(t, twin)
		twin.Fuse(0)
		if e := off.Commit(x.puts); e != x.want {
			t.Errorf("%d: Commit without power: %v, want %v", i, e, x.want)
		}
	}
	commit(t, l, put(0, 2))
	has(t, "a refusal does not end it", l, 2, 0, 0, 0)
}

func TestP404Sync(t *testing.T) {
	d, l := made(t, 2)
	is(t, "Sync", l.Sync(), api.OK)
	commit(t, l, put(0, 1))
	is(t, "Sync", l.Sync(), api.OK)
	d.Crash(nil)
	l = opened(t, d)
	has(t, "synced", l, 1, 0)
	d.Fuse(0)
	is(t, "Sync without power", l.Sync(), api.ErrOff)
}

// life is what a ledger was told: the blocks behind each commit, and how many commits there were ahead of the last sync.
type life struct {
	states [][]byte
	synced int
}

// then tells the blocks behind one more commit.
func (f *life) then(puts []api.Put) {
	next := bytes.Clone(f.states[len(f.states)-1])
	for _, p := range puts {
		next[p.At] = p.Data[0]
	}
	f.states = append(f.states, next)
}

// tell tells the ledger commits, each behind a sync or not, until one fails.
func (f *life) tell(l *Ledger, commits [][]api.Put, syncs int) api.Errno {
	for i, puts := range commits {
		if syncs>>i&1 == 1 {
			if e := l.Sync(); e != api.OK {
				return e
			}
			f.synced = len(f.states) - 1
		}
		f.then(puts)
		if e := l.Commit(puts); e != api.OK {
			return e
		}
	}
	return api.OK
}

// may wants the blocks of one of the states from the last sync on, and tells which.
func (f *life) may(t *testing.T, what string, l *Ledger) []byte {
	t.Helper()
	got := told(t, l)
	for _, s := range f.states[f.synced:] {
		if bytes.Equal(got, s) {
			return s
		}
	}
	t.Fatalf("%s: %v, want one of %v", what, got, f.states[f.synced:])
	return nil
}

// rows are commits that overlap one another, and that share bytes with what stands aside for others.
func rows() [][]api.Put {
	return [][]api.Put{
		{put(0, 1), put(1, 2)},
		{put(0, 2), put(2, 1)},
		{put(2, 7)},
		{put(1, 2), put(2, 5), put(0, 1)},
		{put(0, 9), put(1, 9)},
	}
}

// TestP405Crashes lets the power fail at each step of some commits, lets a crash keep each part of what was held back, and each Open behind it fail and be crashed likewise.
func TestP405Crashes(t *testing.T) {
	for _, syncs := range []int{0, 0b10, 0b10100, 0b11111} {
		for fuse := 0; ; fuse++ {
			d, l := made(t, 3)
			f := &life{states: [][]byte{{0, 0, 0}}}
			d.Fuse(fuse)
			e := f.tell(l, rows(), syncs)
			is(t, "it fails just where the power does", e == api.ErrOff, !d.On())
			for _, keep := range keeps(d) {
				twin := d.Twin()
				twin.Crash(keep)
				crashedOpen(t, f, twin)
			}
			if e == api.OK {
				break
			}
		}
	}
}

// crashedOpen opens a crashed disk, with each fuse, until that goes well.
func crashedOpen(t *testing.T, f *life, d *disk.Disk) {
	t.Helper()
	want := f.may(t, "opened", opened(t, d.Twin()))
	for fuse := 0; ; fuse++ {
		again := d.Twin()
		again.Fuse(fuse)
		if _, e := Open(again); e == api.OK {
			return
		}
		for _, keep := range keeps(again) {
			twin := again.Twin()
			twin.Crash(keep)
			has(t, "opened anew", opened(t, twin), want...)
		}
	}
}

// TestP405Again goes on behind a crash with another commit that shares bytes with the one that failed, and crashes that one, too: what was lost does not come back.
func TestP405Again(t *testing.T) {
	failing := []api.Put{put(0, 3), put(1, 4), put(2, 5)}
	for _, next := range [][]api.Put{
		{put(2, 3), put(1, 4), put(0, 5)}, {put(2, 9), put(0, 4), put(1, 5)}, {put(0, 3), put(1, 4)}, {put(1, 4)}, failing,
	} {
		for fuse := 0; ; fuse++ {
			d, l := made(t, 3)
			f := &life{states: [][]byte{{0, 0, 0}}}
			f.tell(l, [][]api.Put{{put(0, 1), put(1, 1)}, {put(1, 2)}}, 0)
			d.Fuse(fuse)
			e := f.tell(l, [][]api.Put{failing}, 1)
			for _, keep := range keeps(d) {
				twin := d.Twin()
				twin.Crash(keep)
				was := f.may(t, "opened", opened(t, twin))
				crashedNext(t, twin, was, next)
			}
			if e == api.OK {
				break
			}
		}
	}
}

// crashedNext opens a disk that is as was, and lets the power fail at each step of the next commit.
func crashedNext(t *testing.T, d *disk.Disk, was []byte, next []api.Put) {
	t.Helper()
	for fuse := 0; ; fuse++ {
		again := d.Twin()
		f := &life{states: [][]byte{was}}
		l := opened(t, again)
		again.Fuse(fuse)
		e := f.tell(l, [][]api.Put{next}, 0)
		for _, keep := range keeps(again) {
			twin := again.Twin()
			twin.Crash(keep)
			f.may(t, "opened behind the next commit", opened(t, twin))
		}
		if e == api.OK {
			return
		}
	}
}

// TestP405Whole crashes a commit of as many puts as there may be.
func TestP405Whole(t *testing.T) {
	for fuse := 0; ; fuse++ {
		d, l := made(t, api.MaxPuts)
		f := &life{states: [][]byte{make([]byte, api.MaxPuts)}}
		var first, second []api.Put
		for at := range api.MaxPuts {
			first = append(first, put(at, 1))
			second = append(second, put(api.MaxPuts-1-at, 2))
		}
		is(t, "the first", f.tell(l, [][]api.Put{first}, 0), api.OK)
		d.Fuse(fuse)
		e := f.tell(l, [][]api.Put{second}, 1)
		for _, keep := range keeps(d) {
			twin := d.Twin()
			twin.Crash(keep)
			f.may(t, "opened", opened(t, twin))
		}
		if e == api.OK {
			return
		}
	}
}

// TestP405Fast: what answered OK ahead of a Sync, or of an Open, is there behind each crash.
func TestP405Fast(t *testing.T) {
	d, l := made(t, 3)
	commit(t, l, put(0, 1), put(1, 2))
	commit(t, l, put(1, 3))
	is(t, "Sync", l.Sync(), api.OK)
	for _, keep := range keeps(d) {
		twin := d.Twin()
		twin.Crash(keep)
		has(t, "synced", opened(t, twin), 1, 3, 0)
	}
	commit(t, l, put(2, 4), put(0, 5))
	other := opened(t, d)
	commit(t, other, put(0, 6))
	is(t, "Sync", opened(t, d).Sync(), api.OK)
	d.Crash(nil)
	has(t, "what older ledgers were told counts", opened(t, d), 6, 3, 4)
}

// TestP405NoRoom: a disk that holds back as many writes as it may, by others, takes commits all the same.
func TestP405NoRoom(t *testing.T) {
	d, l := made(t, 3)
	fill := func(d *disk.Disk) {
		own, _ := d.Read(api.Log + 2)
		for d.Write(api.Log+2, own) == api.OK {
		}
		is(t, "held back", len(d.Pending()), api.MaxPending)
	}
	fill(d)
	commit(t, l, put(0, 1), put(1, 2))
	fill(d)
	has(t, "opened", opened(t, d), 1, 2, 0)
	fill(d)
	is(t, "Sync", l.Sync(), api.OK)
	for at := range api.MaxPending {
		d.Write(api.Log+at%3, full(5))
	}
	l, e := Format(d)
	is(t, "Format", e, api.OK)
	has(t, "formatted", l, 0, 0, 0)
}

func TestP406OffForGood(t *testing.T) {
	for what, call := range map[string]func(l *Ledger) api.Errno{
		"Read":          func(l *Ledger) api.Errno { _, e := l.Read(0); return e },
		"Read of none":  func(l *Ledger) api.Errno { _, e := l.Read(-1); return e },
		"Commit":        func(l *Ledger) api.Errno { return l.Commit([]api.Put{put(0, 1), put(1, 1)}) },
		"Sync":          func(l *Ledger) api.Errno { return l.Sync() },
		"all, in a row": func(l *Ledger) api.Errno { l.Read(0); l.Sync(); return l.Commit([]api.Put{put(0, 1)}) },
	} {
		d, l := made(t, 2)
		d.Fuse(0)
		is(t, what, call(l), api.ErrOff)
		isOff(t, what, l)
		d.Crash(nil)
		isOff(t, what+", with power again", l)
		is(t, "Blocks", l.Blocks(), 2)
		has(t, "opened anew", opened(t, d), 0, 0)
		isOff(t, what+", behind another Open", l)
		is(t, "nothing is held back", len(d.Pending()), 0)
	}
}

// TestP406LastStep: where the power fails just behind a call's last step, it failed within the call.
func TestP406LastStep(t *testing.T) {
	for fuse := 1; ; fuse++ {
		d, l := made(t, 2)
		d.Fuse(fuse)
		e := l.Commit([]api.Put{put(0, 1), put(1, 2)})
		is(t, "On", d.On(), e == api.OK)
		if e == api.OK {
			has(t, "committed", l, 1, 2)
			return
		}
		d.Crash(nil)
		isOff(t, "behind the crash", l)
	}
}

func TestP407HandedIn(t *testing.T) {
	d, l := made(t, 3)
	room := append(full(1), 77, 78)
	puts := []api.Put{{At: 0, Data: room[:api.Block]}, put(2, 3), put(1, 9)}
	commit(t, l, puts[:2]...)
	if !bytes.Equal(room, append(full(1), 77, 78)) || puts[0].At != 0 || puts[2].At != 1 || !bytes.Equal(puts[1].Data, full(3)) {
		t.Error("Commit changed what was handed in")
	}
	room[0] = 50
	clear(puts[1].Data)
	puts[0].At = 1
	has(t, "not kept", l, 1, 0, 3)
	commit(t, l, put(1, 4))
	d.Crash(nil)
	has(t, "not kept", opened(t, d), 1, 4, 3)
}

func TestP407Answers(t *testing.T) {
	_, l := made(t, 2)
	commit(t, l, put(0, 1))
	b, _ := l.Read(0)
	c, _ := l.Read(0)
	clear(b)
	b = append(b, 8, 8, 8)
	if !bytes.Equal(c, full(1)) {
		t.Error("two answers of Read share memory")
	}
	has(t, "what was read was turned", l, 1, 0)
}

// TestNoLedger: no call panics, also of a ledger or on a disk that is none.
// Peek tells what an Open and a Read would, wherever a commit was interrupted, and touches nothing.
func TestPeek(t *testing.T) {
	for fuse := 0; fuse < 20; fuse++ {
		d, l := made(t, 4)
		commit(t, l, put(0, 1), put(1, 2))
		d.Fuse(fuse)
		l.Commit([]api.Put{put(2, 3), put(0, 4)})
		for _, keep := range keeps(d) {
			twin := d.Twin()
			twin.Crash(keep)
			is(t, "another's write", twin.Write(api.Log+3, full(9)), api.OK)
			opened := opened(t, twin.Twin())
			twin.Fuse(1)
			for at := range 4 {
				b, e := Peek(twin, at)
				want, _ := opened.Read(at)
				is(t, "Peek", e, api.OK)
				is(t, "Peek", string(b), string(want))
			}
			for _, at := range []int{-1, 4, math.MaxInt} {
				b, e := Peek(twin, at)
				is(t, "no block", e, api.ErrBlock)
				is(t, "no bytes", b == nil, true)
			}
			is(t, "no step was made", twin.On(), true)
			is(t, "held back still", slices.Equal(twin.Pending(), []int{api.Log + 3}), true)
		}
	}
}

func TestPeekRefused(t *testing.T) {
	d := bare(t, 4)
	b, e := Peek(d, 0)
	is(t, "raw", e, api.ErrRaw)
	is(t, "no bytes", b == nil, true)
	_, e = Peek(d, -1)
	is(t, "raw, ahead of the block", e, api.ErrRaw)
	d.Fuse(0)
	_, e = Peek(d, 0)
	is(t, "off", e, api.ErrOff)
	_, e = Peek(nil, 0)
	is(t, "no disk", e, api.ErrOff)
}

func TestNoLedger(t *testing.T) {
	for _, l := range []*Ledger{nil, {}} {
		is(t, "Blocks", l.Blocks(), 0)
		is(t, "Sync", l.Sync(), api.ErrOff)
		is(t, "Commit", l.Commit(nil), api.ErrArg)
		is(t, "Commit", l.Commit([]api.Put{put(0, 1)}), api.ErrBlock)
		if b, e := l.Read(0); b != nil || e != api.ErrOff {
			t.Errorf("Read: %v, %v", b, e)
		}
	}
	for _, d := range []*disk.Disk{nil, {}} {
		l, e := Format(d)
		refused(t, "Format", l, e, api.ErrOff)
		l, e = Open(d)
		refused(t, "Open", l, e, api.ErrOff)
	}
}

func TestExamples(t *testing.T) {
	d, l := made(t, 4)
	is(t, "Blocks", l.Blocks(), 4)
	commit(t, l, put(0, 'A'), put(1, 'B'))
	is(t, "Sync", l.Sync(), api.OK)
	is(t, "Fuse", d.Fuse(1), api.OK)
	is(t, "Commit", l.Commit([]api.Put{put(0, 'B'), put(2, 'A')}), api.ErrOff)
	d.Crash(nil)
	l = opened(t, d)
	has(t, "opened", l, 'A', 'B', 0, 0)
	is(t, "Commit of no puts", l.Commit(nil), api.ErrArg)
	is(t, "Commit of block 4", l.Commit([]api.Put{put(4, 1)}), api.ErrBlock)
	l, e := Open(bare(t, 4))
	refused(t, "Open of a new disk", l, e, api.ErrRaw)
	l, e = Format(bare(t, 0))
	refused(t, "Format of 96 blocks", l, e, api.ErrArg)
}

// TestLongLife tells one disk a long row of commits, syncs, opens and crashes, and holds its blocks against those that there may be.
func TestLongLife(t *testing.T) {
	const blocks = 6
	seed := uint32(1)
	next := func(n int) int {
		seed = seed*1664525 + 1013904223
		return int(seed>>8) % n
	}
	d, l := made(t, blocks)
	f := &life{states: [][]byte{make([]byte, blocks)}}
	for range 3000 {
		if next(4) == 0 {
			d.Fuse(next(40))
		}
		var puts []api.Put
		for at := range blocks {
			if next(3) == 0 {
				puts = append(puts, put(at, byte(next(4))))
			}
		}
		if len(puts) == 0 {
			puts = append(puts, put(next(blocks), 5))
		}
		e := f.tell(l, [][]api.Put{puts}, next(2))
		if e == api.OK && next(9) != 0 {
			has(t, "committed", l, f.states[len(f.states)-1]...)
			continue
		}
		is(t, "it fails just where the power does", e == api.ErrOff, !d.On())
		keep := make([]int, len(d.Pending()))
		for i := range keep {
			keep[i] = next(2)
		}
		d.Crash(keep)
		l = opened(t, d)
		f = &life{states: [][]byte{f.may(t, "opened", l)}}
	}
}
