package fs

import (
	"math"
	"math/rand"
	"slices"
	"strconv"
	"strings"
	"testing"

	"shunt/api"
	"shunt/model"
	"shunt/path"
	"shunt/toll"
	"shunt/tree"
)

// twin is a file system, and the tree that it should have.
type twin struct {
	t    *testing.T
	f    *FS
	tree api.Tree
}

// fitting tells the error of a tree that does not fit the file system's room.
func (w *twin) fitting(x api.Tree, e api.Errno) api.Errno {
	if e != api.OK {
		return e
	}
	if fits, _ := toll.Fits(weight(w.t, x), w.f.Room()); !fits {
		return api.ErrSpace
	}
	return api.OK
}

// do does an instruction to both, and tells what came of it.
func (w *twin) do(ins api.Ins, stock [][]byte) api.Errno {
	w.t.Helper()
	x, want := model.Do(w.tree, ins, stock)
	want = w.fitting(x, want)
	is(w.t, "Do", w.f.Do(ins, stock), want)
	if want == api.OK {
		w.tree = x
	}
	return want
}

// put writes a whole file in both.
func (w *twin) put(p string, b []byte) api.Errno {
	w.t.Helper()
	x, want := putTree(w.tree, p, b)
	want = w.fitting(x, want)
	is(w.t, "Put", w.f.Put(p, b), want)
	if want == api.OK {
		w.tree = x
	}
	return want
}

// putTree is the tree that a Put makes of one, by the chapter's words.
func putTree(x api.Tree, p string, b []byte) (api.Tree, api.Errno) {
	switch {
	case p == "":
		return api.Tree{}, api.ErrRoot
	case !path.Valid(p):
		return api.Tree{}, api.ErrPath
	case len(b) > api.MaxData:
		return api.Tree{}, api.ErrLong
	}
	names := path.Names(p)
	for i := 1; i < len(names); i++ {
		at := tree.Find(x, strings.Join(names[:i], "/"))
		if at < 0 {
			return api.Tree{}, api.ErrNone
		}
		if x.Nodes[at].File >= 0 {
			return api.Tree{}, api.ErrNotDir
		}
	}
	x = tree.Clone(x)
	at := tree.Find(x, p)
	switch {
	case at >= 0 && x.Nodes[at].File < 0:
		return api.Tree{}, api.ErrIsDir
	case at >= 0:
		x.Files[x.Nodes[at].File].Data = slices.Clone(b)
		return x, api.OK
	case len(x.Nodes) == api.MaxLoose:
		return api.Tree{}, api.ErrBound
	}
	x.Nodes = append(x.Nodes, api.Node{Path: p, File: len(x.Files)})
	x.Files = append(x.Files, api.File{Mode: 384, Data: slices.Clone(b)})
	return tree.Canon(x)
}

// check holds both against each other.
func (w *twin) check(what string) {
	w.t.Helper()
	has(w.t, what, w.f, w.tree)
}

// anyPath is a path of few names, so that they meet; or, seldom, none.
func anyPath(r *rand.Rand) string {
	if r.Intn(40) == 0 {
		return []string{"", "/", "A", "a//b", "..", "a/b/c/a/b/c/a", "fifteen-letters"}[r.Intn(7)]
	}
	all := []string{"a", "b", "c", ".ts-0", "fourteen-bytes"}
	p := all[r.Intn(len(all))]
	for r.Intn(3) == 0 {
		p += "/" + all[r.Intn(len(all))]
	}
	return p
}

func anyIns(r *rand.Rand, stock [][]byte) api.Ins {
	ins := api.Ins{Op: 1 + r.Intn(9), Path: anyPath(r), To: anyPath(r), Mode: r.Intn(512), Ref: r.Intn(len(stock))}
	if r.Intn(30) == 0 {
		return []api.Ins{{Op: 0}, {Op: 10}, {Op: -1}, {Op: math.MaxInt, Path: "a"}, mkdirs("z", 512), mkdirs("z", -1), writes("z", 0, -1), writes("z", 0, len(stock))}[r.Intn(8)]
	}
	return ins
}

// Whatever is done, in whatever room: the errors are the model's, or that there is no room, and the tree is the model's.
func TestP804Random(t *testing.T) {
	stock := sizes()
	met := map[api.Errno]int{}
	for seed := range 40 {
		r := rand.New(rand.NewSource(int64(seed)))
		d, f := made(t, []int{1, 4, 12, 30, 100}[seed%5], []int{2, 4, 9, 40}[seed%4])
		w := twin{t: t, f: f}
		for range 250 {
			was := imageOf(t, d)
			var e api.Errno
			if r.Intn(4) == 0 {
				e = w.put(anyPath(r), stock[r.Intn(len(stock))])
			} else {
				e = w.do(anyIns(r, stock), stock)
			}
			met[e]++
			if e != api.OK && imageOf(t, d) != was {
				t.Fatalf("seed %d: refused by %v, and something has changed", seed, e)
			}
			if r.Intn(20) == 0 {
				w.f = mounted(t, d)
			}
			w.check("seed " + strconv.Itoa(seed))
			if t.Failed() {
				t.FailNow()
			}
		}
	}
	for _, e := range []api.Errno{api.OK, api.ErrOp, api.ErrMode, api.ErrRoot, api.ErrPath, api.ErrMissing, api.ErrLong, api.ErrNone, api.ErrNotDir, api.ErrExists, api.ErrIsDir, api.ErrFilled, api.ErrSpace} {
		if met[e] == 0 {
			t.Errorf("the rows never came to %v", e)
		}
	}
}

// tight is a file system whose tree fits its room just so, in blocks and in inodes.
func tight(t *testing.T, blocks, inodes int, stock [][]byte, list ...api.Ins) *twin {
	t.Helper()
	_, f := made(t, blocks, inodes)
	w := &twin{t: t, f: f}
	for _, ins := range list {
		is(t, "Do", w.do(ins, stock), api.OK)
	}
	return w
}

func TestP804Space(t *testing.T) {
	stock := sizes()
	// Each file's blocks: those of its bytes, and a further one behind the eighth.
	for ref, blocks := range []int{0, 1, 1, 1, 2, 8, 10, 11, 17} {
		if blocks > 0 {
			w := tight(t, blocks, 2, stock)
			is(t, "a block is missing", w.do(writes("a", 1, ref), stock), api.ErrSpace)
			w.check("refused")
			is(t, "a block is missing: Put", w.put("a", stock[ref]), api.ErrSpace)
			w.check("refused")
		}
		w := tight(t, blocks+1, 2, stock)
		is(t, "it fits", w.do(writes("a", 1, ref), stock), api.OK)
		is(t, "Free", w.f.Free(), 0)
		w.check("full")
		is(t, "no inode", w.do(writes("b", 1, 0), stock), api.ErrSpace)
		is(t, "no inode", w.do(mkdirs("b", 1), stock), api.ErrSpace)
		is(t, "no inode: Put", w.put("b", nil), api.ErrSpace)
		is(t, "no inode: OpCopy", w.do(copies("a", "b", 1), stock), api.ErrSpace)
		w.check("refused")
		// What takes no room is done in none.
		is(t, "OpLink", w.do(links("a", "b"), stock), api.OK)
		is(t, "OpChmod", w.do(chmods("b", 3), stock), api.OK)
		is(t, "OpRename", w.do(renames("b", "c"), stock), api.OK)
		is(t, "OpUnlink", w.do(unlinks("a"), stock), api.OK)
		is(t, "Put of as many bytes", w.put("c", pattern(len(stock[ref]), 99)), api.OK)
		is(t, "Put of less", w.put("c", nil), api.OK)
		w.check("in no room")
		is(t, "OpUnlink", w.do(unlinks("c"), stock), api.OK)
		is(t, "Free", w.f.Free(), complex(float64(blocks), 1))
		is(t, "an inode", w.do(writes("a", 1, ref), stock), api.OK)
		w.check("anew")
	}
	for _, room := range []complex128{1 + 2i, 1 + 3i} {
		w := tight(t, int(real(room)), int(imag(room)), nil)
		is(t, "a directory wants a block", w.do(mkdirs("a", 1), nil), api.ErrSpace)
		w.check("refused")
	}
}

// named are so many names of one empty file, which are in a directory.
func named(dir string, n int) []api.Ins {
	list := []api.Ins{writes(join(dir, "n0"), 1, 0)}
	for i := 1; i < n; i++ {
		list = append(list, links(join(dir, "n0"), join(dir, "n"+strconv.Itoa(i))))
	}
	return list
}

// Each sixteen names in a directory want a block more.
func TestP804Names(t *testing.T) {
	stock := sizes()
	w := tight(t, 2, 3, stock, append([]api.Ins{mkdirs("d", 1)}, named("d", 16)...)...)
	is(t, "the 17th", w.do(links("d/n0", "d/more"), stock), api.ErrSpace)
	is(t, "the 17th: OpMkdir", w.do(mkdirs("d/more", 1), stock), api.ErrSpace)
	is(t, "the 17th: Put", w.put("d/more", nil), api.ErrSpace)
	w.check("refused")

	// Where all blocks are used, a name can still go to another one, and what a name gives back counts for the new one.
	w = tight(t, 3, 3, stock, append([]api.Ins{mkdirs("d", 1)}, named("d", 17)...)...)
	is(t, "Free", w.f.Free(), 0)
	is(t, "within", w.do(renames("d/n3", "d/more"), stock), api.OK)
	w.check("within")
	is(t, "out of it", w.do(renames("d/n16", "n16"), stock), api.OK)
	is(t, "Free", w.f.Free(), 1)
	is(t, "back", w.do(renames("n16", "d/n3"), stock), api.OK)
	w.check("back")

	// A block that one directory gives back is the one that the other one wants.
	w = tight(t, 4, 4, stock, append([]api.Ins{mkdirs("d", 1), mkdirs("e", 1)}, named("d", 17)...)...)
	for i := range 16 {
		is(t, "e", w.do(links("d/n0", "e/m"+strconv.Itoa(i)), stock), api.OK)
	}
	is(t, "Free", w.f.Free(), 0)
	is(t, "from d to e", w.do(renames("d/n5", "e/n5"), stock), api.OK)
	is(t, "Free", w.f.Free(), 0)
	is(t, "from d to e, again", w.do(renames("d/n6", "e/n6"), stock), api.OK)
	w.check("from d to e")
	is(t, "from e to d", w.do(renames("e/m0", "d/m0"), stock), api.OK)
	is(t, "from e to d would need one more", w.do(links("e/m1", "d/m1"), stock), api.ErrSpace)
	w.check("from e to d")
}

// Directories lose their names in whatever order.
func TestP804Emptied(t *testing.T) {
	for seed := range 6 {
		r := rand.New(rand.NewSource(int64(seed)))
		_, f := made(t, 60, 60)
		w := &twin{t: t, f: f}
		w.do(mkdirs("d", 1), nil)
		for i := range 50 {
			is(t, "OpMkdir", w.do(mkdirs("d/k"+strconv.Itoa(i), i), nil), api.OK)
		}
		w.check("filled")
		for _, i := range r.Perm(50) {
			is(t, "Filled", w.do(rmdirs("d"), nil), api.ErrFilled)
			is(t, "OpRmdir", w.do(rmdirs("d/k"+strconv.Itoa(i)), nil), api.OK)
			w.check("emptied")
		}
		is(t, "OpRmdir", w.do(rmdirs("d"), nil), api.OK)
		w.check("gone")
		is(t, "Free", f.Free(), 59+59i)
	}
}

// The model's errors come ahead of the room's.
func TestP804Order(t *testing.T) {
	stock := sizes()
	w := tight(t, 1, 2, stock, writes("a", 1, 0))
	for _, x := range []struct {
		ins  api.Ins
		want api.Errno
	}{
		{api.Ins{Op: 10, Path: "//"}, api.ErrOp},
		{mkdirs("", 512), api.ErrMode},
		{mkdirs("", 1), api.ErrRoot},
		{writes("//", 1, 99), api.ErrPath},
		{writes("k", 1, 99), api.ErrMissing},
		{writes("a", 1, 9), api.ErrLong},
		{writes("a", 1, 8), api.ErrExists},
		{writes("a/b", 1, 8), api.ErrNotDir},
		{writes("c/d", 1, 8), api.ErrNone},
		{copies("a", "a", 1), api.ErrExists},
		{copies("k", "a", 1), api.ErrNone},
		{writes("k", 1, 8), api.ErrSpace},
	} {
		is(t, "Do", w.do(x.ins, stock), x.want)
		w.check("refused")
	}
	is(t, "OpSync is never refused", w.do(api.Ins{Op: api.OpSync, Path: "//", To: "//", Mode: -1, Ref: -1}, nil), api.OK)
}

// crowd gives a file system so many names of one empty file.
func crowd(t *testing.T, f *FS, n int) *twin {
	t.Helper()
	w := &twin{t: t, f: f}
	for _, ins := range named("", n) {
		is(t, "Do", w.do(ins, sizes()), api.OK)
	}
	w.check("crowd")
	return w
}

func TestP804Bound(t *testing.T) {
	stock := sizes()
	for _, room := range []complex128{16 + 2i, 100 + 100i} {
		d, f := made(t, int(real(room)), int(imag(room)))
		w := crowd(t, f, api.MaxLoose)
		for _, ins := range []api.Ins{mkdirs("k", 1), writes("k", 1, 8), links("n1", "k"), copies("n1", "k", 1)} {
			is(t, "too many", w.do(ins, stock), api.ErrBound)
		}
		is(t, "too many: Put", w.put("k", stock[8]), api.ErrBound)
		is(t, "OpRename", w.do(renames("n1", "k"), stock), api.OK)
		is(t, "OpUnlink", w.do(unlinks("k"), stock), api.OK)
		is(t, "OpLink", w.do(links("n2", "k"), stock), api.OK)
		is(t, "too many: OpLink", w.do(links("n2", "l"), stock), api.ErrBound)
		w.check("again")
		w.f = mounted(t, d)
		is(t, "too many, mounted anew", w.do(links("n2", "l"), stock), api.ErrBound)
		is(t, "too many, mounted anew: Put", w.put("l", nil), api.ErrBound)
		is(t, "OpUnlink", w.do(unlinks("n2"), stock), api.OK)
		is(t, "OpLink", w.do(links("n4", "l"), stock), api.OK)
		w.check("mounted anew")
	}
}

// The greatest file system has its files' bytes, each in blocks of its own, and none is lost when others go.
func TestP804Greatest(t *testing.T) {
	_, f := made(t, api.MaxBlocks-api.Log-2-api.MaxInodes/8, api.MaxInodes)
	w := &twin{t: t, f: f}
	files := 0
	for ; ; files++ {
		if e := w.put("n"+strconv.Itoa(files), pattern(api.MaxData, byte(files))); e != api.OK {
			is(t, "full", e, api.ErrSpace)
			break
		}
	}
	is(t, "files", files, 226) // of 17 blocks, in 3,870, of which the root takes 15
	w.check("full")
	for i := range files {
		if i%3 == 0 {
			is(t, "OpUnlink", w.do(unlinks("n"+strconv.Itoa(i)), nil), api.OK)
		}
	}
	w.check("some are gone")
	for i := range files {
		if i%3 == 0 {
			is(t, "OpCopy", w.do(copies("n1", "m"+strconv.Itoa(i), 7), nil), api.OK)
		}
	}
	w.check("full again")
}

func TestP804All(t *testing.T) {
	d, f := made(t, 80, 16)
	w := &twin{t: t, f: f}
	for _, ins := range grove() {
		is(t, "Do", w.do(ins, sizes()), api.OK)
		w.check("grove")
		f = mounted(t, d)
		w.f = f
		w.check("grove, mounted")
	}
}

func TestP805(t *testing.T) {
	stock := sizes()
	w := tight(t, 60, 16, stock, mkdirs("d", 1), writes("f", 493, 1), links("f", "d/g"))
	before := scan(t, w.f).inodes["f"]
	for _, b := range stock[:9] {
		is(t, "Put", w.put("d/g", b), api.OK)
		w.check("Put")
		is(t, "Put anew", w.put("new", b), api.OK)
		w.check("Put anew")
		s, _ := w.f.Stat("new")
		is(t, "mode", s.Mode, 384)
		s, _ = w.f.Stat("f")
		is(t, "mode stays", s.Mode, 493)
		is(t, "names stay", s.Links, 2)
		is(t, "it stays", s.Inode, before)
		is(t, "OpUnlink", w.do(unlinks("new"), nil), api.OK)
	}
	for _, b := range [][]byte{stock[8], stock[2], stock[6], stock[5], stock[0], stock[7]} {
		is(t, "Put", w.put("f", b), api.OK)
		w.check("Put")
	}
}

func TestP805Refused(t *testing.T) {
	stock := sizes()
	long := stock[9]
	w := tight(t, 3, 3, stock, mkdirs("d", 1), writes("f", 493, 1))
	for _, x := range []struct {
		path string
		b    []byte
		want api.Errno
	}{
		{"", long, api.ErrRoot}, {"a//b", long, api.ErrPath}, {"/", nil, api.ErrPath}, {"d/x/", nil, api.ErrPath}, {"none/x", long, api.ErrLong}, {"d", long, api.ErrLong},
		{"none/x", nil, api.ErrNone}, {"f/x", nil, api.ErrNotDir}, {"f/x/y", nil, api.ErrNotDir}, {"d/x/y", nil, api.ErrNone}, {"d", nil, api.ErrIsDir}, {"d", stock[8], api.ErrIsDir},
		{"f", stock[4], api.ErrSpace}, {"f", stock[8], api.ErrSpace}, {"d/x", nil, api.ErrSpace}, {"x", stock[8], api.ErrSpace},
	} {
		is(t, "Put "+x.path, w.put(x.path, x.b), x.want)
		w.check("refused")
	}
	_, f := made(t, 20, 2)
	w = crowd(t, f, api.MaxLoose)
	is(t, "bound ahead of space", w.put("k", nil), api.ErrBound)
	is(t, "path ahead of bound", w.put("none/k", nil), api.ErrNone)
	is(t, "what is there is no more", w.put("n7", stock[3]), api.OK)
	is(t, "what is there, without room", w.put("n7", stock[8]), api.ErrSpace)
	w.check("crowd")
}

// asked holds what Read, Stat and List answer of a path against what they should refuse it for.
func asked(t *testing.T, f *FS, p string, read, stat, list api.Errno) {
	t.Helper()
	b, e := f.Read(p)
	is(t, "Read "+p, e, read)
	is(t, "Read tells nothing: "+p, e == api.OK || b == nil, true)
	s, e := f.Stat(p)
	is(t, "Stat "+p, e, stat)
	is(t, "Stat tells nothing: "+p, e == api.OK || s == api.Stat{}, true)
	l, e := f.List(p)
	is(t, "List "+p, e, list)
	is(t, "List tells nothing: "+p, e == api.OK || l == nil, true)
}

func TestP806Refused(t *testing.T) {
	_, f := made(t, 20, 16)
	must(t, f, sizes(), mkdirs("d", 1), writes("d/f", 1, 1), mkdirs("d/e", 2))
	asked(t, f, "", api.ErrRoot, api.ErrRoot, api.OK)
	for _, p := range []string{"/", "d/", "d//f", ".", "D", "a/b/c/d/e/f/g", "fifteen-letters", "d\x00", "d/f/"} {
		asked(t, f, p, api.ErrPath, api.ErrPath, api.ErrPath)
	}
	asked(t, f, "d", api.ErrIsDir, api.OK, api.OK)
	asked(t, f, "d/e", api.ErrIsDir, api.OK, api.OK)
	asked(t, f, "d/f", api.OK, api.OK, api.ErrNotDir)
	for _, p := range []string{"x", "x/y", "d/x", "d/x/y", "d/e/x", "d/e/f/g/h/i"} {
		asked(t, f, p, api.ErrNone, api.ErrNone, api.ErrNone)
	}
	for _, p := range []string{"d/f/x", "d/f/x/y"} {
		asked(t, f, p, api.ErrNotDir, api.ErrNotDir, api.ErrNotDir)
	}
}

func stat(t *testing.T, f *FS, p string) api.Stat {
	t.Helper()
	s, e := f.Stat(p)
	is(t, "Stat "+p, e, api.OK)
	return s
}

func list(t *testing.T, f *FS, p string) string {
	t.Helper()
	l, e := f.List(p)
	is(t, "List "+p, e, api.OK)
	return strings.Join(l, " ")
}

func TestP806Told(t *testing.T) {
	_, f := made(t, 60, 16)
	is(t, "an empty root", list(t, f, ""), "")
	must(t, f, sizes(), mkdirs("d", 493), writes("d/f", 420, 7), links("d/f", "b"), links("b", "d/.x"), mkdirs("d/e", 0), writes("d/a-b", 0, 0), writes("fourteen-bytes", 511, 8))
	d, b := stat(t, f, "d"), stat(t, f, "b")
	is(t, "d", d, api.Stat{Kind: api.KindDir, Mode: 493, Links: 1, Size: 4, Inode: d.Inode})
	is(t, "b", b, api.Stat{Kind: api.KindFile, Mode: 420, Links: 3, Size: 5000, Inode: b.Inode})
	is(t, "d/f", stat(t, f, "d/f"), b)
	is(t, "d/.x", stat(t, f, "d/.x"), b)
	is(t, "d/e", stat(t, f, "d/e").Size, 0)
	is(t, "d/a-b", stat(t, f, "d/a-b").Size, 0)
	is(t, "the root", list(t, f, ""), "b d fourteen-bytes")
	is(t, "d", list(t, f, "d"), ".x a-b e f")
	is(t, "d/e", list(t, f, "d/e"), "")
	for i, p := range []string{"d/a-b", "b", "fourteen-bytes"} {
		got, e := f.Read(p)
		is(t, "Read", e, api.OK)
		is(t, "Read", string(got), string(sizes()[[]int{0, 7, 8}[i]]))
	}
}

// An inode's number stays with the file or directory, whatever is done to it.
func TestP806Inode(t *testing.T) {
	d, f := made(t, 60, 16)
	must(t, f, sizes(), mkdirs("d", 493), writes("a", 420, 1), writes("b", 420, 1))
	dir, a, b := stat(t, f, "d").Inode, stat(t, f, "a").Inode, stat(t, f, "b").Inode
	is(t, "three", dir != a && a != b && b != dir, true)
	must(t, f, sizes(), links("a", "d/a"), unlinks("a"), renames("b", "a"), chmods("d", 1), renames("d/a", "b"), mkdirs("d/e", 1), copies("b", "c", 1), chmods("a", 3))
	is(t, "Put", f.Put("a", make([]byte, api.MaxData)), api.OK)
	is(t, "Put", f.Put("b", nil), api.OK)
	for range 2 {
		is(t, "d", stat(t, f, "d").Inode, dir)
		is(t, "a", stat(t, f, "a").Inode, b)
		is(t, "b", stat(t, f, "b").Inode, a)
		scan(t, f) // holds all numbers against each other
		f = mounted(t, d)
	}
}
