package walk

import (
	"bytes"
	"math/rand"
	"reflect"
	"slices"
	"strconv"
	"strings"
	"testing"

	"shunt/api"
	"shunt/disk"
	"shunt/fs"
	"shunt/ledger"
	"shunt/model"
	"shunt/tree"
)

// is holds what a call answered against what it should have.
func is[T comparable](t *testing.T, what string, got, want T) {
	t.Helper()
	if got != want {
		t.Errorf("%s: %v, want %v", what, got, want)
	}
}

// made is a file system with that room, and its disk.
func made(t *testing.T, blocks, inodes int) (*disk.Disk, *fs.FS) {
	t.Helper()
	d, e := disk.New(api.Log + 2 + (inodes+7)/8 + blocks)
	if e != api.OK {
		t.Fatal(e)
	}
	f, e := fs.Format(d, inodes)
	if e != api.OK {
		t.Fatal(e)
	}
	return d, f
}

// great is a file system that has room for each loose tree but the heaviest ones.
func great(t *testing.T) (*disk.Disk, *fs.FS) {
	t.Helper()
	return made(t, 3700, 600)
}

func mounted(t *testing.T, d *disk.Disk) *fs.FS {
	t.Helper()
	f, e := fs.Mount(d)
	if e != api.OK {
		t.Fatalf("Mount: %v", e)
	}
	return f
}

func laid(t *testing.T, what string, f *fs.FS, x api.Tree) {
	t.Helper()
	if e := Lay(f, x); e != api.OK {
		t.Fatalf("%s: Lay: %v", what, e)
	}
}

func scanned(t *testing.T, what string, f *fs.FS) api.Tree {
	t.Helper()
	x, e := Scan(f)
	if e != api.OK {
		t.Fatalf("%s: Scan: %v", what, e)
	}
	is(t, what+": loose", tree.Loose(x), api.OK)
	return x
}

// has wants a file system to scan to a tree.
func has(t *testing.T, what string, f *fs.FS, want api.Tree) {
	t.Helper()
	if got := scanned(t, what, f); !tree.Same(got, want) {
		t.Errorf("%s: %v, want %v", what, got, want)
	}
}

// nothing wants no tree, and that error.
func nothing(t *testing.T, what string, f *fs.FS, want api.Errno) {
	t.Helper()
	x, e := Scan(f)
	is(t, what, e, want)
	is(t, what+": no tree", len(x.Nodes)+len(x.Files), 0)
}

// image is all that a disk tells of its blocks, and what it holds back.
func image(t *testing.T, d *disk.Disk) string {
	t.Helper()
	var all strings.Builder
	for at := range d.Blocks() {
		b, e := d.Read(at)
		if e != api.OK {
			t.Fatalf("block %d: %v", at, e)
		}
		all.Write(b)
	}
	for _, at := range d.Pending() {
		all.WriteString(" " + strconv.Itoa(at))
	}
	return all.String()
}

func folder(p string, mode int) api.Node { return api.Node{Path: p, File: -1, Mode: mode} }

func name(p string, file int) api.Node { return api.Node{Path: p, File: file} }

// file is one of so many bytes, of which no two blocks are alike.
func file(mode, size int) api.File {
	b := make([]byte, size)
	for i := range b {
		b[i] = byte(i) ^ byte(i/api.Block)*37 ^ byte(size)
	}
	return api.File{Mode: mode, Data: b}
}

// sample is the tree of the chapter's example.
func sample() api.Tree {
	return api.Tree{Nodes: []api.Node{folder("a", 493), name("a/x", 0), name("b", 0)}, Files: []api.File{{Mode: 420, Data: []byte("hi")}}}
}

// flat are so many names in a directory, which are directories, or each a file's, or all one file's.
func flat(n, kind int) api.Tree {
	x := api.Tree{Nodes: []api.Node{folder("d", 511)}}
	for i := range n - 1 {
		p := "d/n" + strconv.Itoa(1000+i)
		switch kind {
		case 0:
			x.Nodes = append(x.Nodes, folder(p, i))
		case 1:
			x.Nodes = append(x.Nodes, name(p, i))
			x.Files = append(x.Files, file(511-i, i))
		default:
			x.Nodes = append(x.Nodes, name(p, 0))
			x.Files = []api.File{file(7, 600)}
		}
	}
	return x
}

// trees are loose trees of all kinds.
func trees() map[string]api.Tree {
	const full = "nnnnnnnnnnnnnn"
	deep := api.Tree{Files: []api.File{file(0, 513)}}
	for i := range 5 {
		deep.Nodes = append(deep.Nodes, folder((full + strings.Repeat("/"+full, 5))[:14+15*i], i))
	}
	deep.Nodes = append(deep.Nodes, name(full+strings.Repeat("/"+full, 5), 0), name("o", 0))
	sizes := api.Tree{}
	for i, size := range []int{0, 1, 511, 512, 513, 4096, 4097, 8191, 8192} {
		sizes.Nodes = append(sizes.Nodes, name("f"+strconv.Itoa(i), i))
		sizes.Files = append(sizes.Files, file(384, size))
	}
	return map[string]api.Tree{
		"nothing":         {},
		"empty":           {Nodes: []api.Node{}, Files: []api.File{}},
		"sample":          sample(),
		"deep":            deep,
		"sizes":           sizes,
		"no bytes":        {Nodes: []api.Node{name("f", 0), name("g", 1)}, Files: []api.File{{Mode: 1}, {Mode: 1, Data: []byte{}}}},
		"modes":           {Nodes: []api.Node{folder("a", 0), folder("b", 511), name("c", 0), name("d", 1), name("e", 2)}, Files: []api.File{file(0, 1), file(511, 1), file(384, 1)}},
		"alike":           {Nodes: []api.Node{name("a", 0), name("b", 1)}, Files: []api.File{file(420, 5), file(420, 5)}},
		"linked":          {Nodes: []api.Node{name("a", 0), name("b", 1), name("c", 0), name("d", 2), name("e", 1)}, Files: []api.File{file(1, 1), file(2, 2), file(3, 3)}},
		"linked across":   {Nodes: []api.Node{folder("a", 1), name("a/x", 0), name("a/y", 1), folder("b", 2), name("b/x", 1), name("b/y", 0), name("c", 2)}, Files: []api.File{file(1, 5), file(1, 5), file(1, 5)}},
		"between":         {Nodes: []api.Node{folder("a", 493), folder("a-", 1), name("a-/x", 0), name("a.x", 1), folder("a/x", 2), name("a/x/y", 2), name("a0", 0), name("a_", 1)}, Files: []api.File{file(1, 1), file(2, 2), file(3, 3)}},
		"dots":            {Nodes: []api.Node{folder("-", 1), name("...", 0), folder("..a", 1), name("..a/...", 1), name("0", 1), name("_", 0)}, Files: []api.File{file(1, 1), file(2, 2)}},
		"kept":            {Nodes: []api.Node{name(".ts-0", 0), name(".ts-journal", 1), folder("a", 1), folder("a/.tsx", 2), name("a/.tsx/y", 0)}, Files: []api.File{file(384, 34), file(420, 34)}},
		"256 directories": flat(256, 0),
		"256 files":       flat(256, 1),
		"256 names":       flat(256, 2),
	}
}

func TestExample(t *testing.T) {
	_, f := made(t, 10, 16)
	is(t, "Lay", Lay(f, sample()), api.OK)
	has(t, "Scan", f, sample())
	is(t, "Lay anew", Lay(f, sample()), api.ErrFilled)
	has(t, "Scan", f, sample())
}

func TestP901Off(t *testing.T) {
	nothing(t, "none", nil, api.ErrOff)
	nothing(t, "a zero one", new(fs.FS), api.ErrOff)
	for _, x := range []api.Tree{{}, sample()} {
		d, f := made(t, 10, 16)
		laid(t, "a disk", f, x)
		is(t, "Fuse", d.Fuse(0), api.OK)
		nothing(t, "without power", f, api.ErrOff)
		nothing(t, "without power, again", f, api.ErrOff)
		d.Crash(nil)
		nothing(t, "it is off for good", f, api.ErrOff)
		has(t, "mounted anew", mounted(t, d), x)
	}
}

// Scan turns nothing, and makes no step of the disk.
func TestP901Changes(t *testing.T) {
	for what, x := range trees() {
		d, f := great(t)
		laid(t, what, f, x)
		was, room, free := image(t, d), f.Room(), f.Free()
		is(t, what, d.Fuse(1), api.OK)
		has(t, what, f, x)
		has(t, what+", again", f, x)
		is(t, what+": a step is left", d.On(), true)
		is(t, what+": Room", f.Room(), room)
		is(t, what+": Free", f.Free(), free)
		is(t, what+": the disk", image(t, d) == was, true)
		is(t, what+": one more step", d.Flush(), api.OK)
		is(t, what+": that was the last one", d.On(), false)
	}
}

// A file system on which instructions were done scans to the tree that they make.
func TestP901Scan(t *testing.T) {
	r := rand.New(rand.NewSource(9))
	stock := [][]byte{[]byte("new"), nil, file(0, 5000).Data, file(0, 600).Data}
	paths := []string{"a", "b", "c", "a-b", "a/x", "a/y", "a/b", "a/b/x", "b/x", "b.y", "c/x", "c0", ".ts-0"}
	for range 12 {
		d, f := made(t, 200, 40)
		x := api.Tree{}
		for range 120 {
			ins := api.Ins{Op: 1 + r.Intn(api.OpSync), Path: paths[r.Intn(len(paths))], To: paths[r.Intn(len(paths))], Mode: r.Intn(512), Ref: r.Intn(len(stock))}
			y, want := model.Do(x, ins, stock)
			is(t, "Do", f.Do(ins, stock), want)
			if want != api.OK {
				continue
			}
			x = y
			has(t, "done", f, x)
		}
		has(t, "mounted anew", mounted(t, d), x)
		is(t, "Put", f.Put(".ts-journal", stock[3]), api.OK)
		x.Nodes, x.Files = append(x.Nodes, name(".ts-journal", len(x.Files))), append(x.Files, api.File{Mode: 384, Data: stock[3]})
		x, e := tree.Canon(x)
		is(t, "Canon", e, api.OK)
		has(t, "put", f, x)
	}
}

// What Scan answers is new memory, each list of its own.
func TestP901Own(t *testing.T) {
	_, f := great(t)
	x := trees()["linked across"]
	laid(t, "Lay", f, x)
	one, other := scanned(t, "one", f), scanned(t, "the other one", f)
	for _, file := range one.Files {
		b := file.Data[:cap(file.Data)]
		for i := range b {
			b[i] ^= 255
		}
	}
	one.Files[0].Data = append(one.Files[0].Data, "more"...)
	for i := range one.Files {
		is(t, "own bytes", one.Files[i].Data[0], x.Files[i].Data[0]^255)
	}
	clear(one.Files[:cap(one.Files)])
	clear(one.Nodes[:cap(one.Nodes)])
	is(t, "the other one", tree.Same(other, x), true)
	has(t, "the file system", f, x)
}

// refused wants Lay to refuse a tree, and to turn nothing.
func refused(t *testing.T, what string, d *disk.Disk, f *fs.FS, x api.Tree, want api.Errno) {
	t.Helper()
	was, room, free, there := image(t, d), f.Room(), f.Free(), scanned(t, what, f)
	is(t, what+": Lay", Lay(f, x), want)
	is(t, what+": the disk", image(t, d) == was, true)
	is(t, what+": Room", f.Room(), room)
	is(t, what+": Free", f.Free(), free)
	has(t, what, f, there)
}

// wrong are trees that are not loose, by their error.
func wrong() map[api.Errno][]api.Tree {
	one := []api.File{file(1, 1)}
	return map[api.Errno][]api.Tree{
		api.ErrBound: {
			flat(257, 0), flat(257, 2), {Files: make([]api.File, 257)},
			{Nodes: []api.Node{name("a", 0)}, Files: []api.File{file(1, api.MaxData+1)}},
			{Nodes: []api.Node{name("/", 0)}, Files: []api.File{file(-1, api.MaxData+1)}},
		},
		api.ErrTree: {
			{Nodes: []api.Node{folder("b", 1), folder("a", 1)}},
			{Nodes: []api.Node{folder("a", 1), folder("a", 1)}},
			{Nodes: []api.Node{folder("a/b", 1)}},
			{Nodes: []api.Node{folder("", 1)}},
			{Nodes: []api.Node{folder("a/", 1)}},
			{Nodes: []api.Node{folder("A", 1)}},
			{Nodes: []api.Node{folder("a", 512)}},
			{Nodes: []api.Node{name("a", 0), name("a/x", 0)}, Files: one},
			{Nodes: []api.Node{name("a", 0)}, Files: []api.File{file(-1, 1)}},
			{Nodes: []api.Node{name("a", 0)}},
			{Nodes: []api.Node{name("a", -2)}},
			{Nodes: []api.Node{name("a", 1), name("b", 0)}, Files: []api.File{file(1, 1), file(2, 2)}},
			{Files: one},
			{Nodes: []api.Node{folder("a", 1), folder("b", 1), name("c", 0)}},
		},
	}
}

func TestP902Loose(t *testing.T) {
	for want, list := range wrong() {
		for i, x := range list {
			what := "error " + strconv.Itoa(int(want)) + ", " + strconv.Itoa(i)
			is(t, what, tree.Loose(x), want)
			d, f := made(t, 3700, 300)
			refused(t, what, d, f, x, want)
			laid(t, what, f, sample())
			refused(t, what+", ahead of ErrFilled", d, f, x, want)
			d, f = made(t, 1, 2)
			refused(t, what+", ahead of ErrSpace", d, f, x, want)
			d.Fuse(0)
			is(t, what+", ahead of ErrOff", Lay(f, x), want)
			is(t, what+", of no file system", Lay(nil, x), want)
		}
	}
}

func TestP902Off(t *testing.T) {
	is(t, "none", Lay(nil, sample()), api.ErrOff)
	is(t, "a zero one", Lay(new(fs.FS), api.Tree{}), api.ErrOff)
	d, f := made(t, 10, 16)
	d.Fuse(0)
	is(t, "without power", Lay(f, sample()), api.ErrOff)
	d.Crash(nil)
	is(t, "it is off for good", Lay(f, sample()), api.ErrOff)
	f = mounted(t, d)
	has(t, "nothing is there", f, api.Tree{})
	laid(t, "filled", f, sample())
	d.Fuse(0)
	is(t, "ahead of ErrFilled", Lay(f, sample()), api.ErrOff)
	d, f = made(t, 1, 2)
	d.Fuse(0)
	is(t, "ahead of ErrSpace", Lay(f, sample()), api.ErrOff)
}

func TestP902Filled(t *testing.T) {
	heavy := flat(256, 1)
	for what, put := range map[string]func(f *fs.FS) api.Errno{
		"a directory": func(f *fs.FS) api.Errno { return f.Do(api.Ins{Op: api.OpMkdir, Path: "z", Mode: 1}, nil) },
		"a file":      func(f *fs.FS) api.Errno { return f.Put("z", nil) },
		"the journal": func(f *fs.FS) api.Errno { return f.Put(".ts-journal", []byte("x")) },
	} {
		d, f := made(t, 10, 16)
		is(t, what, put(f), api.OK)
		refused(t, what, d, f, sample(), api.ErrFilled)
		refused(t, what+", of nothing", d, f, api.Tree{}, api.ErrFilled)
		refused(t, what+", ahead of ErrSpace", d, f, heavy, api.ErrFilled)
		f = mounted(t, d)
		refused(t, what+", mounted anew", d, f, sample(), api.ErrFilled)
	}
	d, f := made(t, 10, 16)
	is(t, "Put", f.Put("z", nil), api.OK)
	is(t, "OpUnlink", f.Do(api.Ins{Op: api.OpUnlink, Path: "z"}, nil), api.OK)
	laid(t, "emptied", f, sample())
	has(t, "emptied", mounted(t, d), sample())
}

// What fits just so is laid; where a block or an inode wants, nothing is.
func TestP902Space(t *testing.T) {
	for what, x := range trees() {
		w, e := tree.Weight(x)
		is(t, what, e, api.OK)
		blocks, inodes := int(real(w)), int(imag(w))
		d, f := made(t, blocks, max(inodes, 2))
		laid(t, what+", just so", f, x)
		has(t, what+", just so", f, x)
		is(t, what+": Free", real(f.Free()), 0)
		d.Crash(nil)
		has(t, what+", just so, synced", mounted(t, d), x)
		if blocks > 1 {
			d, f = made(t, blocks-1, inodes+50)
			refused(t, what+", a block wants", d, f, x, api.ErrSpace)
			laid(t, what+", but another one", f, api.Tree{})
		}
		if inodes > 2 {
			d, f = made(t, blocks+50, inodes-1)
			refused(t, what+", an inode wants", d, f, x, api.ErrSpace)
			laid(t, what+", but another one", f, api.Tree{})
		}
	}
}

// It is synced: whatever is lost behind it, the tree is there.
func TestP902Synced(t *testing.T) {
	for what, x := range trees() {
		d, f := great(t)
		is(t, what, d.Write(d.Blocks()-1, make([]byte, api.Block)), api.OK)
		laid(t, what, f, x)
		is(t, what+": nothing is held back", len(d.Pending()), 0)
		d.Crash(nil)
		has(t, what, mounted(t, d), x)
	}
}

// part tells whether all that is in x is in y, with its mode, its bytes, and what names one file.
func part(x, y api.Tree) bool {
	files := map[int]int{} // of x's files those of y
	for _, n := range x.Nodes {
		at := tree.Find(y, n.Path)
		if at < 0 || (n.File < 0) != (y.Nodes[at].File < 0) || n.Mode != y.Nodes[at].Mode {
			return false
		}
		if n.File < 0 {
			continue
		}
		number, ok := files[n.File]
		if ok && number != y.Nodes[at].File {
			return false
		}
		files[n.File] = y.Nodes[at].File
		a, b := x.Files[n.File], y.Files[y.Nodes[at].File]
		if a.Mode != b.Mode || !bytes.Equal(a.Data, b.Data) {
			return false
		}
	}
	taken := map[int]struct{}{}
	for _, number := range files {
		taken[number] = struct{}{}
	}
	return len(taken) == len(files)
}

// Wherever the power fails, Lay tells so, and some of the tree is there.
func TestP902PowerFails(t *testing.T) {
	for _, what := range []string{"nothing", "sample", "kept", "linked across", "modes"} {
		x := trees()[what]
		grown := 0
		for fuse := 0; ; fuse++ {
			d, f := made(t, 30, 16)
			d.Fuse(fuse)
			e := Lay(f, x)
			if e == api.OK {
				is(t, what+": a step is left", d.On(), true)
				has(t, what, f, x)
				break
			}
			is(t, what+": the power fails", e, api.ErrOff)
			is(t, what+": it is off", d.On(), false)
			nothing(t, what+": it is off", f, api.ErrOff)
			for _, keep := range [][]int{nil, {1, 1, 1, 1, 1, 1, 1, 1, 1}, {1, 0, 1, 0, 1}, {0, 1, 0, 1, 0, 1}} {
				grown = max(grown, broken(t, what, d.Twin(), keep, x))
			}
		}
		is(t, what+": all of it was there at last", grown, len(x.Nodes))
	}
}

// broken crashes a disk on which a tree was laid, but not to the end, and tells how many of its nodes are there.
func broken(t *testing.T, what string, d *disk.Disk, keep []int, x api.Tree) int {
	t.Helper()
	d.Crash(keep)
	f := mounted(t, d)
	there := scanned(t, what, f)
	if !part(there, x) {
		t.Fatalf("%s: %v is no part of it", what, there)
	}
	want := api.OK
	if len(there.Nodes) > 0 {
		want = api.ErrFilled
	}
	is(t, what+": Lay again", Lay(f, x), want)
	return len(there.Nodes)
}

// Once a tree is taken away, another one can be laid.
func TestP902Again(t *testing.T) {
	d, f := made(t, 60, 20)
	for _, what := range []string{"sample", "kept", "between", "linked across", "deep", "sizes", "dots"} {
		x := trees()[what]
		laid(t, what, f, x)
		has(t, what, f, x)
		for _, n := range slices.Backward(x.Nodes) {
			op := api.OpUnlink
			if n.File < 0 {
				op = api.OpRmdir
			}
			is(t, what+": away with "+n.Path, f.Do(api.Ins{Op: op, Path: n.Path}, nil), api.OK)
		}
		has(t, what+", taken away", f, api.Tree{})
		is(t, what+": Free", f.Free(), f.Room()-(1+1i))
		f = mounted(t, d)
	}
}

// What is handed in stays, its spare room, too; and it isn't kept.
func TestP902HandedIn(t *testing.T) {
	for what, x := range trees() {
		mine := api.Tree{Nodes: append(slices.Clone(x.Nodes), folder("spare", 7))[:len(x.Nodes)], Files: append(slices.Clone(x.Files), file(7, 7))[:len(x.Files)]}
		for i, file := range mine.Files {
			mine.Files[i].Data = append(slices.Clone(file.Data), "spare"...)[:len(file.Data)]
		}
		was := all(mine)
		_, f := great(t)
		laid(t, what, f, mine)
		is(t, what+": stays", reflect.DeepEqual(all(mine), was), true)
		for i, file := range mine.Files {
			clear(file.Data[:cap(file.Data)])
			mine.Files[i].Mode = 0
		}
		clear(mine.Nodes)
		has(t, what, f, x)
	}
}

// all is a tree's lists, their spare room with them.
func all(x api.Tree) api.Tree {
	y := api.Tree{Nodes: slices.Clone(x.Nodes[:cap(x.Nodes)]), Files: slices.Clone(x.Files[:cap(x.Files)])}
	for i, file := range y.Files {
		y.Files[i].Data = slices.Clone(file.Data[:cap(file.Data)])
	}
	return y
}

func TestP903(t *testing.T) {
	for what, x := range trees() {
		d, f := great(t)
		laid(t, what, f, x)
		has(t, what, f, x)
		has(t, what+", mounted anew", mounted(t, d), x)
		w, _ := tree.Weight(x)
		is(t, what+": Free", f.Free(), f.Room()-w)
		print, _ := tree.Print(x)
		again, _ := tree.Print(scanned(t, what, f))
		is(t, what+": Print", again, print)
	}
}

// TestP903All lays all trees of a few nodes.
func TestP903All(t *testing.T) {
	var nodes []api.Node
	for _, p := range []string{"a", "a-", "a/b", "a/b/c", "b", "b/x"} {
		nodes = append(nodes, folder(p, 493), name(p, 0), name(p, 1), name(p, 2))
	}
	d, _ := made(t, 12, 8)
	found := 0
	look := func(x api.Tree) {
		if tree.Loose(x) != api.OK {
			return
		}
		found++
		f := mounted(t, d.Twin())
		laid(t, "Lay", f, x)
		has(t, "Scan", f, x)
	}
	var grow func(x api.Tree, from int)
	grow = func(x api.Tree, from int) {
		for files := range 4 {
			x.Files = []api.File{file(7, 3), file(7, 3), {Mode: 384}}[:files]
			look(x)
		}
		for i := from; i < len(nodes); i++ {
			grow(api.Tree{Nodes: append(slices.Clone(x.Nodes), nodes[i])}, i/4*4+4)
		}
	}
	grow(api.Tree{}, 0)
	is(t, "trees", found, 158)
}

// TestP903Grown lays trees that grew by chance.
func TestP903Grown(t *testing.T) {
	r := rand.New(rand.NewSource(903))
	for range 60 {
		x := grown(r, r.Intn(api.MaxLoose+1))
		_, f := great(t)
		laid(t, "Lay", f, x)
		has(t, "Scan", f, x)
	}
}

// grown is a tree of at most so many nodes, in which directories, new files and further names stand where chance has put them.
func grown(r *rand.Rand, most int) api.Tree {
	const letters = "ab-._0z"
	var x api.Tree
	dirs, there := []string{""}, map[string]int{}
	for range most {
		p := dirs[r.Intn(len(dirs))] + "n"
		for range r.Intn(6) {
			p += string(letters[r.Intn(len(letters))])
		}
		if there[p]++; there[p] > 1 {
			continue
		}
		switch kind := r.Intn(3); {
		case kind == 0 && strings.Count(p, "/") < api.MaxDepth-1:
			dirs = append(dirs, p+"/")
			x.Nodes = append(x.Nodes, folder(p, r.Intn(512)))
		case kind == 1 && len(x.Files) > 0:
			x.Nodes = append(x.Nodes, name(p, r.Intn(len(x.Files))))
		default:
			x.Nodes = append(x.Nodes, name(p, len(x.Files)))
			x.Files = append(x.Files, file(r.Intn(512), r.Intn(1+r.Intn(8193))))
		}
	}
	x, e := tree.Canon(x)
	if e != api.OK {
		panic(e)
	}
	return x
}

// A disk on which others have written is scanned, or refused; whatever it is, no call panics, and each ends.
func TestP901Broken(t *testing.T) {
	d, f := made(t, 12, 8)
	x := trees()["linked across"]
	x.Nodes, x.Files = slices.Clone(x.Nodes[:5]), x.Files[:2]
	laid(t, "Lay", f, x)
	for at := range d.Blocks() - api.Log {
		for i := range api.Block {
			if i > 60 && i%19 != 0 && !(at == 2 && i < 330) {
				continue
			}
			for _, to := range []byte{0, 1, 2, 255} {
				f := mounted(t, d.Twin())
				twin := d.Twin()
				spoil(t, twin, at, func(b []byte) { b[i] = to })
				if g, e := fs.Mount(twin); e == api.OK {
					f = g
				}
				if y, e := Scan(f); e != api.OK {
					is(t, "no tree", len(y.Nodes)+len(y.Files), 0)
				} else {
					is(t, "loose", tree.Loose(y), api.OK)
				}
				Lay(f, sample())
			}
		}
	}
}

// spoil writes into a ledger's block on a disk.
func spoil(t *testing.T, d *disk.Disk, at int, turn func(b []byte)) {
	t.Helper()
	l, e := ledger.Open(d)
	is(t, "Open", e, api.OK)
	b, e := l.Read(at)
	is(t, "Read", e, api.OK)
	turn(b)
	is(t, "Commit", l.Commit([]api.Put{{At: at, Data: b}}), api.OK)
}

// Directories of which each has forty names in the one above it would be walked for ever, if there were no bound.
func TestP901Crowd(t *testing.T) {
	d, f := made(t, 80, 40)
	dir := func(level int) string { return "abcdef"[level : level+1] }
	nameOf := func(level, i int) string { return dir(level) + strconv.Itoa(100+i) }
	p := ""
	for level := range api.MaxDepth {
		p = strings.TrimPrefix(p+"/"+nameOf(level, 0), "/")
		is(t, p, f.Do(api.Ins{Op: api.OpMkdir, Path: p, Mode: 1}, nil), api.OK)
		first := p[:len(p)-4] + dir(level) + "file"
		is(t, first, f.Put(first, nil), api.OK)
		for i := 1; i < 40; i++ {
			to := p[:len(p)-4] + nameOf(level, i)
			is(t, to, f.Do(api.Ins{Op: api.OpLink, Path: first, To: to}, nil), api.OK)
		}
	}
	inode, _ := f.Stat("a100")
	// The names of the file become names of the directory: a name stands in its block behind its inode's number.
	for at := range d.Blocks() - api.Log {
		spoil(t, d, at, func(b []byte) {
			for level := range api.MaxDepth {
				from := bytes.Index(b, []byte(nameOf(level, 0)+"\x00"))
				if from < 2 {
					continue
				}
				number := [2]byte(b[from-2:])
				for i := 1; i < 40; i++ {
					if to := bytes.Index(b, []byte(nameOf(level, i)+"\x00")); to >= 2 {
						copy(b[to-2:], number[:])
					}
				}
			}
		})
	}
	f = mounted(t, d)
	again, e := f.Stat("a101")
	is(t, "two names of one directory", e, api.OK)
	is(t, "two names of one directory", again, inode)
	nothing(t, "too many", f, api.ErrBound)
}
