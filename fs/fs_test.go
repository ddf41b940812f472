package fs

import (
	"bytes"
	"math"
	"slices"
	"strconv"
	"testing"

	"shunt/api"
	"shunt/disk"
	"shunt/ledger"
	"shunt/model"
	"shunt/tree"
)

// is holds what a call answered against what it should have.
func is[T comparable](t *testing.T, what string, got, want T) {
	t.Helper()
	if got != want {
		t.Errorf("%s: %v, want %v", what, got, want)
	}
}

// bare is a disk that has a room of so many blocks, once it is formatted with so many inodes.
func bare(t *testing.T, blocks, inodes int) *disk.Disk {
	t.Helper()
	d, e := disk.New(api.Log + 2 + (inodes+7)/8 + blocks)
	if e != api.OK {
		t.Fatal(e)
	}
	return d
}

func made(t *testing.T, blocks, inodes int) (*disk.Disk, *FS) {
	t.Helper()
	d := bare(t, blocks, inodes)
	f, e := Format(d, inodes)
	if f == nil || e != api.OK {
		t.Fatalf("Format: %v, %v", f, e)
	}
	return d, f
}

func mounted(t *testing.T, d *disk.Disk) *FS {
	t.Helper()
	f, e := Mount(d)
	if f == nil || e != api.OK {
		t.Fatalf("Mount: %v, %v", f, e)
	}
	return f
}

// refused wants an error, and no file system.
func refused(t *testing.T, what string, f *FS, e, want api.Errno) {
	t.Helper()
	if f != nil || e != want {
		t.Errorf("%s: %v, %v, want %v", what, f, e, want)
	}
}

// image is all that a disk tells of its blocks, and what it holds back.
type image struct {
	bytes   string
	pending string
}

func imageOf(t *testing.T, d *disk.Disk) image {
	t.Helper()
	all := make([]byte, 0, d.Blocks()*api.Block)
	for at := range d.Blocks() {
		b, e := d.Read(at)
		if e != api.OK {
			t.Fatalf("block %d: %v", at, e)
		}
		all = append(all, b...)
	}
	var held []byte
	for _, at := range d.Pending() {
		held = strconv.AppendInt(append(held, ' '), int64(at), 10)
	}
	return image{string(all), string(held)}
}

func full(n byte) []byte { return bytes.Repeat([]byte{n}, api.Block) }

// litter writes bytes of n into all blocks of a disk.
func litter(t *testing.T, d *disk.Disk, n byte) {
	t.Helper()
	for at := range d.Blocks() {
		is(t, "Write", d.Write(at, full(n)), api.OK)
	}
}

func join(p, name string) string {
	if p == "" {
		return name
	}
	return p + "/" + name
}

// scanned is a tree as a file system's calls tell it, and the inodes that it tells on the way, by paths.
type scanned struct {
	tree   api.Tree
	inodes map[string]int
}

func scan(t *testing.T, f *FS) scanned {
	t.Helper()
	var (
		s     = scanned{inodes: map[string]int{}}
		files = map[int]int{} // by inodes
		dirs  = map[int]string{}
		links = map[int]int{}
		down  func(p string) int
	)
	down = func(p string) int {
		list, e := f.List(p)
		is(t, "List "+p, e, api.OK)
		is(t, "List rises: "+p, slices.IsSorted(list), true)
		for _, name := range list {
			full := join(p, name)
			x, e := f.Stat(full)
			is(t, "Stat "+full, e, api.OK)
			is(t, "Inode above 0: "+full, x.Inode > 0, true)
			s.inodes[full] = x.Inode
			n := api.Node{Path: full, File: -1, Mode: x.Mode}
			if x.Kind == api.KindDir {
				if other, ok := dirs[x.Inode]; ok {
					t.Errorf("%s and %s have one inode", full, other)
				}
				dirs[x.Inode] = full
				s.tree.Nodes = append(s.tree.Nodes, n)
				is(t, "Links of "+full, x.Links, 1)
				is(t, "Size of "+full, x.Size, down(full))
				continue
			}
			is(t, "Kind of "+full, x.Kind, api.KindFile)
			b, e := f.Read(full)
			is(t, "Read "+full, e, api.OK)
			is(t, "Size of "+full, x.Size, len(b))
			at, ok := files[x.Inode]
			if !ok {
				at = len(s.tree.Files)
				files[x.Inode], links[x.Inode] = at, x.Links
				s.tree.Files = append(s.tree.Files, api.File{Mode: x.Mode, Data: b})
			}
			is(t, "one file's bytes: "+full, string(s.tree.Files[at].Data), string(b))
			is(t, "one file's mode: "+full, s.tree.Files[at].Mode, x.Mode)
			is(t, "one file's links: "+full, links[x.Inode], x.Links)
			s.tree.Nodes = append(s.tree.Nodes, api.Node{Path: full, File: at})
		}
		return len(list)
	}
	down("")
	for number, at := range files {
		if p, ok := dirs[number]; ok {
			t.Errorf("a file has the inode of the directory %s", p)
		}
		names := 0
		for _, n := range s.tree.Nodes {
			if n.File == at {
				names++
			}
		}
		is(t, "Links", links[number], names)
	}
	x, e := tree.Canon(s.tree)
	is(t, "Canon", e, api.OK)
	s.tree = x
	return s
}

func weight(t *testing.T, x api.Tree) complex128 {
	t.Helper()
	w, e := tree.Weight(x)
	is(t, "Weight", e, api.OK)
	return w
}

// has wants a file system to have a tree, and as much free as that leaves.
func has(t *testing.T, what string, f *FS, want api.Tree) {
	t.Helper()
	if got := scan(t, f).tree; !tree.Same(got, want) {
		t.Errorf("%s: %v, want %v", what, got, want)
	}
	is(t, what+": Free", f.Free(), f.Room()-weight(t, want))
}

func mkdirs(p string, mode int) api.Ins { return api.Ins{Op: api.OpMkdir, Path: p, Mode: mode} }

func rmdirs(p string) api.Ins { return api.Ins{Op: api.OpRmdir, Path: p} }

func unlinks(p string) api.Ins { return api.Ins{Op: api.OpUnlink, Path: p} }

func renames(p, to string) api.Ins { return api.Ins{Op: api.OpRename, Path: p, To: to} }

func links(p, to string) api.Ins { return api.Ins{Op: api.OpLink, Path: p, To: to} }

func writes(p string, mode, ref int) api.Ins {
	return api.Ins{Op: api.OpWrite, Path: p, Mode: mode, Ref: ref}
}

func copies(p, to string, mode int) api.Ins {
	return api.Ins{Op: api.OpCopy, Path: p, To: to, Mode: mode}
}

func chmods(p string, mode int) api.Ins { return api.Ins{Op: api.OpChmod, Path: p, Mode: mode} }

func syncs() api.Ins { return api.Ins{Op: api.OpSync} }

// pattern are bytes of which no two blocks are alike.
func pattern(n int, seed byte) []byte {
	b := make([]byte, n)
	for i := range b {
		b[i] = byte(i) ^ byte(i/api.Block)*37 ^ seed
	}
	return b
}

// sizes is a stock of contents at the edges of what blocks hold; the last one is too long.
func sizes() [][]byte {
	var stock [][]byte
	for i, n := range []int{0, 1, 511, 512, 513, 4096, 4097, 5000, 8192, 8193} {
		stock = append(stock, pattern(n, byte(i)))
	}
	return stock
}

// must does instructions, none of which may be refused.
func must(t *testing.T, f *FS, stock [][]byte, list ...api.Ins) {
	t.Helper()
	for _, ins := range list {
		if e := f.Do(ins, stock); e != api.OK {
			t.Fatalf("%v: %v", ins, e)
		}
	}
}

// grove does a row of instructions of all kinds, which leaves links, a deep directory, kept names and a file of many blocks.
func grove() []api.Ins {
	return []api.Ins{
		mkdirs("a", 493), mkdirs("a/b", 448), mkdirs("a/b/c", 0), writes("a/x", 420, 3), writes("f", 384, 7), links("f", "a/b/c/f"),
		copies("f", "g", 1), renames("a/x", ".ts-0"), mkdirs("gone", 511), rmdirs("gone"), writes("d", 2, 8), unlinks("d"), chmods("a/b", 7), chmods("f", 8),
		links(".ts-0", "a/b/y"), writes("empty", 511, 0),
	}
}

// groveTree is what grove leaves.
func groveTree(t *testing.T) api.Tree {
	t.Helper()
	x, _, e := model.Run(api.Tree{}, grove(), sizes())
	is(t, "model", e, api.OK)
	return x
}

func TestExamples(t *testing.T) {
	d, e := disk.New(110)
	is(t, "New", e, api.OK)
	f, e := Format(d, 16)
	is(t, "Format", e, api.OK)
	is(t, "Room", f.Room(), 10+16i)
	is(t, "Free", f.Free(), 9+15i)
	is(t, "Do", f.Do(mkdirs("a", 493), nil), api.OK)
	is(t, "Free", f.Free(), 8+14i)
	is(t, "Do", f.Do(writes("a/x", 420, 0), [][]byte{make([]byte, 5000)}), api.ErrSpace)
	is(t, "Free", f.Free(), 8+14i)
	is(t, "Put", f.Put(".ts-journal", []byte("abc")), api.OK)
	s, e := f.Stat(".ts-journal")
	is(t, "Stat", e, api.OK)
	is(t, "a number", s.Inode > 0, true)
	s.Inode = 0
	is(t, "Stat", s, api.Stat{Kind: api.KindFile, Mode: 384, Links: 1, Size: 3})
	list, e := f.List("")
	is(t, "List", e, api.OK)
	is(t, "List", slices.Equal(list, []string{".ts-journal", "a"}), true)
	is(t, "Fuse", d.Fuse(0), api.OK)
	isOff(t, "a fuse of 0", f)
}

func TestP801Refused(t *testing.T) {
	for _, inodes := range []int{-1, 0, 1, api.MaxInodes + 1, math.MaxInt, math.MinInt, math.MaxInt - 3} {
		d := bare(t, 10, 16)
		litter(t, d, 7)
		was := imageOf(t, d)
		f, e := Format(d, inodes)
		refused(t, "inodes "+strconv.Itoa(inodes), f, e, api.ErrArg)
		is(t, "nothing has changed", imageOf(t, d), was)
		small, _ := disk.New(1)
		f, e = Format(small, inodes)
		refused(t, "inodes ahead of space", f, e, api.ErrArg)
		d.Fuse(0)
		f, e = Format(d, inodes)
		refused(t, "inodes ahead of power", f, e, api.ErrArg)
	}
	for _, blocks := range []int{1, api.Log, api.Log + 3, api.Log + 4} {
		d, _ := disk.New(blocks)
		was := imageOf(t, d)
		f, e := Format(d, 16)
		refused(t, "blocks "+strconv.Itoa(blocks), f, e, api.ErrSpace)
		is(t, "nothing has changed", imageOf(t, d), was)
		d.Fuse(0)
		f, e = Format(d, 16)
		refused(t, "power ahead of space", f, e, api.ErrOff)
	}
	f, e := Format(nil, 16)
	refused(t, "no disk", f, e, api.ErrOff)
}

func TestP801Room(t *testing.T) {
	for _, inodes := range []int{2, 7, 8, 9, 16, 17, 1023, api.MaxInodes} {
		own := api.Log + 2 + (inodes+7)/8
		d, _ := disk.New(own)
		f, e := Format(d, inodes)
		refused(t, "no block for inodes "+strconv.Itoa(inodes), f, e, api.ErrSpace)
		for _, blocks := range []int{1, 2, 50, api.MaxBlocks - own} {
			d, f := made(t, blocks, inodes)
			room := complex(float64(blocks), float64(inodes))
			is(t, "Room", f.Room(), room)
			is(t, "Free", f.Free(), room-(1+1i))
			is(t, "mounted: Room", mounted(t, d).Room(), room)
			is(t, "mounted: Free", mounted(t, d).Free(), room-(1+1i))
		}
	}
}

// What the disk had is gone, be it another's bytes or a file system; and what was formatted is there behind a crash.
func TestP801Gone(t *testing.T) {
	for _, before := range []func(d *disk.Disk){
		func(d *disk.Disk) {},
		func(d *disk.Disk) { litter(t, d, 255) },
		func(d *disk.Disk) { litter(t, d, 1); d.Flush() },
		func(d *disk.Disk) {
			f, _ := Format(d, 16)
			must(t, f, sizes(), grove()...)
		},
		func(d *disk.Disk) { Format(d, 100) },
	} {
		d := bare(t, 80, 16)
		before(d)
		f, e := Format(d, 16)
		is(t, "Format", e, api.OK)
		has(t, "formatted", f, api.Tree{})
		d.Crash(nil)
		f = mounted(t, d)
		is(t, "Room", f.Room(), 80+16i)
		has(t, "behind a crash", f, api.Tree{})
		must(t, f, sizes(), grove()...)
		has(t, "grown", f, groveTree(t))
	}
}

func TestP801PowerFails(t *testing.T) {
	for fuse := 0; ; fuse++ {
		d := bare(t, 3, 2)
		litter(t, d, 9)
		d.Fuse(fuse)
		f, e := Format(d, 2)
		if e == api.OK {
			is(t, "a step is left", d.On(), true)
			break
		}
		refused(t, "fuse "+strconv.Itoa(fuse), f, e, api.ErrOff)
		for i, keep := range keeps(d) {
			if i > 9 && i%17 != fuse%17 {
				continue // of what is littered there is more than it takes
			}
			twin := d.Twin()
			twin.Crash(keep)
			if f, e := Mount(twin); e == api.OK {
				has(t, "all of it", f, api.Tree{})
			} else {
				refused(t, "not all of it", f, e, api.ErrRaw)
			}
			f, e := Format(twin, 2)
			is(t, "again", e, api.OK)
			has(t, "again", f, api.Tree{})
		}
	}
}

func TestP802Raw(t *testing.T) {
	raw := func(what string, d *disk.Disk) {
		t.Helper()
		was := imageOf(t, d)
		f, e := Mount(d)
		refused(t, what, f, e, api.ErrRaw)
		is(t, what+": nothing has changed", imageOf(t, d), was)
		d.Fuse(1)
		f, e = Mount(d)
		refused(t, what+": with a fuse", f, e, api.ErrRaw)
		is(t, what+": no step was made", d.On(), true)
		d.Fuse(0)
		f, e = Mount(d)
		refused(t, what+": without power", f, e, api.ErrOff)
	}
	raw("noughts", bare(t, 10, 16))
	littered := bare(t, 10, 16)
	litter(t, littered, 3)
	raw("litter", littered)
	small, _ := disk.New(1)
	raw("one block", small)

	// A ledger's disk is no file system's, and what it holds back stays held back.
	d := bare(t, 10, 16)
	l, _ := ledger.Format(d)
	l.Commit([]api.Put{{At: 0, Data: full(1)}, {At: 1, Data: full(2)}})
	raw("a ledger", d.Twin())
	d.Fuse(6)
	l.Commit([]api.Put{{At: 0, Data: full(3)}, {At: 3, Data: full(4)}})
	held := d.Twin()
	held.Crash([]int{1, 1, 1, 1, 1, 1})
	held.Write(api.Log+2, full(5))
	raw("a ledger, with a write held back", held)

	d, f := made(t, 10, 16)
	must(t, f, nil, mkdirs("a", 1))
	ledger.Format(d)
	raw("a ledger that was a file system", d)

	// One that tells at the beginning what a file system would, and has not even a root.
	d.Crash(nil)
	l, _ = ledger.Format(d)
	l.Commit([]api.Put{{At: headAt, Data: head(16)}})
	f, e := Mount(d)
	refused(t, "a ledger with a file system's first block", f, e, api.ErrRaw)
	f, e = Mount(nil)
	refused(t, "no disk", f, e, api.ErrOff)
}

func TestP802Mount(t *testing.T) {
	d, f := made(t, 80, 16)
	must(t, f, sizes(), grove()...)
	was := scan(t, f)
	for range 3 {
		f = mounted(t, d)
		is(t, "Room", f.Room(), 80+16i)
		has(t, "mounted", f, groveTree(t))
		again := scan(t, f)
		for p, number := range was.inodes {
			is(t, "Inode of "+p, again.inodes[p], number)
		}
	}
	d.Crash(nil)
	has(t, "behind a crash", mounted(t, d), groveTree(t))
	d.Fuse(0)
	f, e := Mount(d)
	refused(t, "without power", f, e, api.ErrOff)
}

// A disk on which others have written is refused, or taken; whatever it is, no call panics, and each ends.
func TestP802Broken(t *testing.T) {
	d, f := made(t, 20, 9)
	stock := sizes()
	must(t, f, stock, mkdirs("a", 493), writes("a/x", 420, 7), links("a/x", "y"), mkdirs("a/b", 1), writes("z", 2, 4))
	for at := range d.Blocks() - api.Log {
		for i := range api.Block {
			// Where a block begins, and in the first inodes, most bytes mean something; elsewhere few do.
			if i > 40 && i%23 != 0 && !(at == 2 && i < 330) {
				continue
			}
			for _, x := range []byte{0, 1, 31, 255} {
				broken(t, d, f, stock, at, i, x)
			}
		}
	}
}

// broken turns a byte of a ledger's block, and calls all that there is.
func broken(t *testing.T, d *disk.Disk, was *FS, stock [][]byte, at, i int, x byte) {
	t.Helper()
	twin := d.Twin()
	l, e := ledger.Open(twin)
	is(t, "Open", e, api.OK)
	b, e := l.Read(at)
	is(t, "Read", e, api.OK)
	if b[i] == x {
		return
	}
	b[i] = x
	is(t, "Commit", l.Commit([]api.Put{{At: at, Data: b}}), api.OK)
	old := fresh(l, was.room)
	old.use = was.use
	calls(old, stock)
	f, e := Mount(twin)
	if e == api.OK {
		is(t, "the tree fits", real(f.Free()) >= 0 && imag(f.Free()) >= 0, true)
		calls(f, stock)
		return
	}
	refused(t, "broken", f, e, api.ErrRaw)
}

// calls calls all that there is, whatever it answers.
func calls(f *FS, stock [][]byte) {
	for _, p := range []string{"", "a", "a/x", "y", "a/b", "z", "none"} {
		f.Read(p)
		f.Stat(p)
		f.List(p)
	}
	for _, ins := range []api.Ins{
		copies("y", "a/b/k", 3), renames("a/x", "a/b/l"), chmods("a", 5), links("z", "a/m"), mkdirs("n", 1), unlinks("y"),
		unlinks("z"), unlinks("a/b/l"), rmdirs("a/b"), rmdirs("n"), writes("a/o", 2, 8), syncs(),
	} {
		f.Do(ins, stock)
	}
	f.Put("y", stock[7])
	f.Put("y", nil)
}

func TestP803(t *testing.T) {
	d, f := made(t, 40, 6)
	is(t, "Room", f.Room(), 40+6i)
	for _, step := range []struct {
		ins  api.Ins
		free complex128
	}{
		{mkdirs("a", 1), 38 + 4i},
		{writes("b", 1, 0), 38 + 3i},
		{writes("c", 1, 6), 28 + 2i},
		{links("c", "a/c"), 28 + 2i},
		{unlinks("c"), 28 + 2i},
		{unlinks("a/c"), 38 + 3i},
		{rmdirs("a"), 39 + 4i},
		{chmods("b", 2), 39 + 4i},
	} {
		must(t, f, sizes(), step.ins)
		is(t, "Free", f.Free(), step.free)
		is(t, "Room", f.Room(), 40+6i)
	}
	// What no call has told yet is not known yet.
	d.Fuse(0)
	is(t, "Room", f.Room(), 40+6i)
	is(t, "Free", f.Free(), 39+4i)
}

// offs are calls each of which tells that the power is gone.
func offs() []func(f *FS) api.Errno {
	return []func(f *FS) api.Errno{
		func(f *FS) api.Errno { return f.Do(mkdirs("k", 1), nil) },
		func(f *FS) api.Errno { return f.Do(mkdirs("", -1), nil) },
		func(f *FS) api.Errno { return f.Do(api.Ins{}, nil) },
		func(f *FS) api.Errno { return f.Do(writes("k", 1, 3), nil) },
		func(f *FS) api.Errno { return f.Do(syncs(), nil) },
		func(f *FS) api.Errno { return f.Put("k", nil) },
		func(f *FS) api.Errno { return f.Put("", make([]byte, api.MaxData+1)) },
		func(f *FS) api.Errno { b, e := f.Read("a"); return none(e, b == nil) },
		func(f *FS) api.Errno { b, e := f.Read(""); return none(e, b == nil) },
		func(f *FS) api.Errno { s, e := f.Stat("a"); return none(e, s == api.Stat{}) },
		func(f *FS) api.Errno { s, e := f.Stat("//"); return none(e, s == api.Stat{}) },
		func(f *FS) api.Errno { l, e := f.List(""); return none(e, l == nil) },
		func(f *FS) api.Errno { l, e := f.List("none"); return none(e, l == nil) },
		func(f *FS) api.Errno { return f.Sync() },
	}
}

// none is an error, or no error's number, if something was told beside it.
func none(e api.Errno, nothing bool) api.Errno {
	if !nothing {
		return -1
	}
	return e
}

// isOff wants a file system that answers api.ErrOff.
func isOff(t *testing.T, what string, f *FS) {
	t.Helper()
	for i, call := range offs() {
		is(t, what+": call "+strconv.Itoa(i), call(f), api.ErrOff)
	}
	is(t, what+": Room", f.Room(), 0)
	is(t, what+": Free", f.Free(), 0)
}

// Each call tells that there is no power, ahead of anything else, and then there is none for good.
func TestP803Off(t *testing.T) {
	for i, call := range offs() {
		d, f := made(t, 10, 16)
		must(t, f, nil, mkdirs("a", 1))
		d.Fuse(0)
		is(t, "call "+strconv.Itoa(i), call(f), api.ErrOff)
		is(t, "Room", f.Room(), 0)
		is(t, "Free", f.Free(), 0)
		d.Crash(nil)
		isOff(t, "behind a crash", f)
		has(t, "mounted anew", mounted(t, d), api.Tree{Nodes: []api.Node{{Path: "a", File: -1, Mode: 1}}})
	}
}

func TestNoFS(t *testing.T) {
	isOff(t, "nil", nil)
	isOff(t, "zero", &FS{})
}
