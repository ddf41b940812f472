package model

import (
	"bytes"
	"maps"
	"math"
	"math/rand"
	"reflect"
	"slices"
	"strconv"
	"strings"
	"testing"

	"shunt/api"
	"shunt/path"
	"shunt/tree"
)

// is holds what a call answered against what it should have.
func is[T comparable](t *testing.T, what string, got, want T) {
	t.Helper()
	if got != want {
		t.Errorf("%s: %v, want %v", what, got, want)
	}
}

func same(t *testing.T, what string, got, want api.Tree) {
	t.Helper()
	if !tree.Same(got, want) {
		t.Errorf("%s: %v, want %v", what, got, want)
	}
}

func dirNode(p string, mode int) api.Node { return api.Node{Path: p, File: -1, Mode: mode} }

func nameNode(p string, file int) api.Node { return api.Node{Path: p, File: file} }

func text(mode int, data string) api.File { return api.File{Mode: mode, Data: []byte(data)} }

// sample is the tree of the chapter's examples.
func sample() api.Tree {
	return api.Tree{Nodes: []api.Node{dirNode("a", 493), nameNode("a/x", 0)}, Files: []api.File{text(420, "hi")}}
}

// wide is a tree with two links, two files that are alike, a deep directory and kept names.
func wide() api.Tree {
	return api.Tree{
		Nodes: []api.Node{nameNode(".ts-0", 0), dirNode("d", 448), nameNode("d/f", 1), dirNode("d/sub", 1), nameNode("d/sub/g", 0), dirNode("e", 2), nameNode("f", 2), nameNode("z", 3)},
		Files: []api.File{text(420, "linked"), text(384, "alike"), text(384, "alike"), text(0, "")},
	}
}

// flat are so many directories of the root.
func flat(n int) api.Tree {
	var t api.Tree
	for i := range n {
		t.Nodes = append(t.Nodes, dirNode("n"+strconv.Itoa(1000+i), 493))
	}
	return t
}

func mkdirs(p string, mode int) api.Ins { return api.Ins{Op: api.OpMkdir, Path: p, Mode: mode} }

func rmdirs(p string) api.Ins { return api.Ins{Op: api.OpRmdir, Path: p} }

func unlinks(p string) api.Ins { return api.Ins{Op: api.OpUnlink, Path: p} }

func renames(p, to string) api.Ins { return api.Ins{Op: api.OpRename, Path: p, To: to} }

func links(p, to string) api.Ins { return api.Ins{Op: api.OpLink, Path: p, To: to} }

func writes(p string, mode, ref int) api.Ins {
	return api.Ins{Op: api.OpWrite, Path: p, Mode: mode, Ref: ref}
}

func copies(p, to string, mode int) api.Ins {
	return api.Ins{Op: api.OpCopy, Path: p, To: to, Mode: mode}
}

func chmods(p string, mode int) api.Ins { return api.Ins{Op: api.OpChmod, Path: p, Mode: mode} }

var fresh = [][]byte{[]byte("new")}

// makes holds what Do makes of a tree against what it should.
func makes(t *testing.T, what string, x api.Tree, ins api.Ins, want api.Tree) {
	t.Helper()
	got, e := Do(x, ins, fresh)
	is(t, what, e, api.OK)
	same(t, what, got, want)
}

// refuses holds what all calls answer of an instruction that is refused.
func refuses(t *testing.T, what string, x api.Tree, ins api.Ins, stock [][]byte, want api.Errno) {
	t.Helper()
	got, e := Do(x, ins, stock)
	is(t, what, e, want)
	is(t, what+": no tree", got.Nodes == nil && got.Files == nil, true)
	peak, e := Peak(x, []api.Ins{ins}, stock)
	is(t, what+": Peak", e, want)
	is(t, what+": no peak", peak, 0)
}

func TestExamples(t *testing.T) {
	a, hi := dirNode("a", 493), text(420, "hi")
	ax := nameNode("a/x", 0)
	makes(t, "rename", sample(), renames("a/x", "b"), api.Tree{Nodes: []api.Node{a, nameNode("b", 0)}, Files: []api.File{hi}})
	makes(t, "link", sample(), links("a/x", "b"), api.Tree{Nodes: []api.Node{a, ax, nameNode("b", 0)}, Files: []api.File{hi}})
	makes(t, "copy", sample(), copies("a/x", "b", 384), api.Tree{Nodes: []api.Node{a, ax, nameNode("b", 1)}, Files: []api.File{hi, text(384, "hi")}})
	makes(t, "write", sample(), writes("b", 420, 0), api.Tree{Nodes: []api.Node{a, ax, nameNode("b", 1)}, Files: []api.File{hi, text(420, "new")}})
	refuses(t, "write 1", sample(), writes("b", 420, 1), fresh, api.ErrMissing)
	refuses(t, "rmdir", sample(), rmdirs("a"), fresh, api.ErrFilled)
	refuses(t, "unlink", sample(), unlinks("a"), fresh, api.ErrIsDir)
	refuses(t, "in a file", sample(), mkdirs("a/x/y", 0), fresh, api.ErrNotDir)
	refuses(t, "in nothing", sample(), mkdirs("c/d", 0), fresh, api.ErrNone)
	refuses(t, "onto a directory", sample(), renames("a/x", "a"), fresh, api.ErrExists)
	refuses(t, "the root", sample(), mkdirs("", 0), fresh, api.ErrRoot)
	refuses(t, "no path", sample(), mkdirs("a//b", 0), fresh, api.ErrPath)
	refuses(t, "a mode", sample(), mkdirs("b", 512), fresh, api.ErrMode)
	peak, e := Peak(sample(), []api.Ins{mkdirs("d", 0), rmdirs("d")}, nil)
	is(t, "peak", peak, 4+4i)
	is(t, "peak", e, api.OK)
	peak, e = Peak(sample(), nil, nil)
	is(t, "peak of none", peak, 3+3i)
	is(t, "peak of none", e, api.OK)
}

// every are instructions of all kinds that sample's tree takes.
func every() []api.Ins {
	return []api.Ins{mkdirs("b", 1), rmdirs("e"), renames("f", "b"), links("f", "b"), unlinks("f"), writes("b", 1, 0), copies("f", "b", 1), chmods("f", 1), {Op: api.OpSync}}
}

func TestP701NotLoose(t *testing.T) {
	long := sample()
	long.Files[0].Data = make([]byte, api.MaxData+1)
	for _, x := range []struct {
		what string
		tree api.Tree
		want api.Errno
	}{
		{"a node missing", api.Tree{Nodes: sample().Nodes[1:], Files: sample().Files}, api.ErrTree},
		{"falling", api.Tree{Nodes: []api.Node{dirNode("b", 0), dirNode("a", 0)}}, api.ErrTree},
		{"unnamed", api.Tree{Files: sample().Files}, api.ErrTree},
		{"257 nodes", flat(257), api.ErrBound},
		{"a long file", long, api.ErrBound},
	} {
		for _, ins := range append(every(), api.Ins{}, mkdirs("", 600)) {
			refuses(t, x.what, x.tree, ins, fresh, x.want)
		}
		for _, list := range [][]api.Ins{nil, make([]api.Ins, api.MaxIns+1)} {
			got, n, e := Run(x.tree, list, fresh)
			is(t, x.what+": Run", e, x.want)
			is(t, x.what+": Run", n+len(got.Nodes)+len(got.Files), 0)
			curve, n, e := Curve(x.tree, list, fresh)
			is(t, x.what+": Curve", e, x.want)
			is(t, x.what+": Curve", n+len(curve), 0)
			_, e = Peak(x.tree, list, fresh)
			is(t, x.what+": Peak", e, x.want)
		}
	}
}

func TestP701Op(t *testing.T) {
	for _, op := range []int{0, -1, 10, 11, 100, math.MaxInt, math.MinInt} {
		refuses(t, "op "+strconv.Itoa(op), sample(), api.Ins{Op: op, Path: "b", To: "c"}, fresh, api.ErrOp)
		refuses(t, "op, all wrong "+strconv.Itoa(op), sample(), api.Ins{Op: op, Mode: -1, Ref: 7}, fresh, api.ErrOp)
	}
	for _, x := range []api.Tree{{}, sample(), wide(), flat(256)} {
		makes(t, "sync", x, api.Ins{Op: api.OpSync}, x)
		makes(t, "sync, all wrong", x, api.Ins{Op: api.OpSync, Path: "//", To: "//", Mode: -1, Ref: -1}, x)
	}
}

// fields tells which fields besides Path an instruction of that kind has.
func fields(op int) (mode, to, ref bool) {
	mode = op == api.OpMkdir || op == api.OpWrite || op == api.OpCopy || op == api.OpChmod
	to = op == api.OpRename || op == api.OpLink || op == api.OpCopy
	return mode, to, op == api.OpWrite
}

// TestP701Fields makes one field after the other wrong; what stands behind in the order is wrong, too, and what an instruction has not.
func TestP701Fields(t *testing.T) {
	long := [][]byte{make([]byte, api.MaxData+1), make([]byte, api.MaxData)}
	bad := []string{"/", "/a", "a/", "a//b", ".", "a/..", "A", "a b", "\xff", "a/b/c/d/e/f/g", strings.Repeat("n", 15), strings.Repeat("n", 100000)}
	for op := api.OpMkdir; op < api.OpSync; op++ {
		mode, to, ref := fields(op)
		what := "op " + strconv.Itoa(op)
		if mode {
			for _, m := range []int{-1, 512, math.MaxInt, math.MinInt} {
				refuses(t, what+": mode", sample(), api.Ins{Op: op, Mode: m, Path: "", To: "", Ref: 5}, nil, api.ErrMode)
			}
		}
		refuses(t, what+": root", sample(), api.Ins{Op: op, To: "/", Ref: 5}, nil, api.ErrRoot)
		if to {
			refuses(t, what+": to the root", sample(), api.Ins{Op: op, Path: "/", Ref: 5}, nil, api.ErrRoot)
		}
		for _, p := range bad {
			refuses(t, what+": path", sample(), api.Ins{Op: op, Path: p, To: "x", Ref: 5}, nil, api.ErrPath)
			if to {
				refuses(t, what+": to", sample(), api.Ins{Op: op, Path: "no/no", To: p, Ref: 5}, nil, api.ErrPath)
			}
		}
		if ref {
			for _, r := range []int{-1, 2, math.MaxInt, math.MinInt} {
				refuses(t, what+": ref", sample(), api.Ins{Op: op, Path: "no/no", Ref: r}, long, api.ErrMissing)
			}
			refuses(t, what+": no stock", sample(), api.Ins{Op: op, Path: "no/no"}, nil, api.ErrMissing)
			refuses(t, what+": long", sample(), api.Ins{Op: op, Path: "no/no"}, long, api.ErrLong)
		}
		refuses(t, what+": the table", sample(), api.Ins{Op: op, Path: "no/no", To: "no/no", Ref: 1}, long, api.ErrNone)
	}
}

// TestP701Others gives each kind of instruction wrong values in the fields that it has not.
func TestP701Others(t *testing.T) {
	for _, ins := range every() {
		want, e := Do(wide(), ins, fresh)
		is(t, "op "+strconv.Itoa(ins.Op), e, api.OK)
		mode, to, ref := fields(ins.Op)
		if !mode {
			ins.Mode = -7
		}
		if !to {
			ins.To = "//"
		}
		if !ref {
			ins.Ref = -1
		}
		makes(t, "op "+strconv.Itoa(ins.Op), wide(), ins, want)
	}
}

func TestP701Table(t *testing.T) {
	for _, x := range []struct {
		ins  api.Ins
		want api.Errno
	}{
		{mkdirs("d", 0), api.ErrExists}, {mkdirs("f", 0), api.ErrExists}, {mkdirs("d/f", 0), api.ErrExists}, {mkdirs("f/x", 0), api.ErrNotDir}, {mkdirs("f/x/y", 0), api.ErrNotDir}, {mkdirs("x/y", 0), api.ErrNone}, {mkdirs("d/x/y/z", 0), api.ErrNone}, {mkdirs("d/f/y/z", 0), api.ErrNotDir},
		{writes("d", 0, 0), api.ErrExists}, {writes("f", 0, 0), api.ErrExists}, {writes("f/x", 0, 0), api.ErrNotDir}, {writes("x/y", 0, 0), api.ErrNone},
		{rmdirs("x"), api.ErrNone}, {rmdirs("d/x"), api.ErrNone}, {rmdirs("x/y"), api.ErrNone}, {rmdirs("f/y"), api.ErrNotDir}, {rmdirs("f"), api.ErrNotDir}, {rmdirs("d"), api.ErrFilled}, {rmdirs("d/sub"), api.ErrFilled}, {rmdirs("e"), api.OK},
		{unlinks("x"), api.ErrNone}, {unlinks("x/y"), api.ErrNone}, {unlinks("f/y"), api.ErrNotDir}, {unlinks("d"), api.ErrIsDir}, {unlinks("e"), api.ErrIsDir}, {unlinks("f"), api.OK},
		{chmods("x", 0), api.ErrNone}, {chmods("x/y", 0), api.ErrNone}, {chmods("f/y", 0), api.ErrNotDir}, {chmods("e", 0), api.OK}, {chmods("f", 0), api.OK},
	} {
		holds(t, x.ins, x.want)
	}
	for _, two := range []func(p, to string) api.Ins{renames, links, func(p, to string) api.Ins { return copies(p, to, 0) }} {
		for _, x := range []struct {
			p, to string
			want  api.Errno
		}{
			{"x", "e/new", api.ErrNone}, {"x/y", "e/new", api.ErrNone}, {"x", "x", api.ErrNone}, {"x", "f", api.ErrNone}, {"d/x", "f/y", api.ErrNone},
			{"f/x", "x/y", api.ErrNotDir}, {"f/x/y", "e/new", api.ErrNotDir},
			{"d", "e/new", api.ErrIsDir}, {"e", "f", api.ErrIsDir}, {"d/sub", "f/y", api.ErrIsDir}, {"d", "d/x", api.ErrIsDir},
			{"f", "x/y", api.ErrNone}, {"f", "z/y", api.ErrNotDir}, {"f", "f/y", api.ErrNotDir}, {"f", "d/f/y/z", api.ErrNotDir},
			{"f", "f", api.ErrExists}, {"f", "z", api.ErrExists}, {"f", "e", api.ErrExists}, {"d/sub/g", ".ts-0", api.ErrExists}, {"f", "d/sub", api.ErrExists},
			{"f", "e/new", api.OK}, {"d/sub/g", "a", api.OK}, {".ts-0", ".ts-1", api.OK}, {"z", "d/sub/a", api.OK},
		} {
			holds(t, two(x.p, x.to), x.want)
		}
	}
}

// holds asks what Do answers of wide's tree.
func holds(t *testing.T, ins api.Ins, want api.Errno) {
	t.Helper()
	what := strconv.Itoa(ins.Op) + " " + ins.Path + " " + ins.To
	if want != api.OK {
		refuses(t, what, wide(), ins, fresh, want)
		return
	}
	got, e := Do(wide(), ins, fresh)
	is(t, what, e, api.OK)
	is(t, what, tree.Loose(got), api.OK)
}

// TestP701Files: names come and go, and the files are numbered by the nodes that name them first.
func TestP701Files(t *testing.T) {
	two := api.Tree{Nodes: []api.Node{nameNode("b", 0), nameNode("c", 1), nameNode("d", 0)}, Files: []api.File{text(1, "one"), text(2, "two")}}
	one, other := two.Files[0], two.Files[1]
	turned := []api.File{other, one}
	makes(t, "first name gone", two, unlinks("b"), api.Tree{Nodes: []api.Node{nameNode("c", 0), nameNode("d", 1)}, Files: turned})
	makes(t, "last name gone", two, unlinks("c"), api.Tree{Nodes: []api.Node{nameNode("b", 0), nameNode("d", 0)}, Files: []api.File{one}})
	makes(t, "renamed behind", two, renames("b", "e"), api.Tree{Nodes: []api.Node{nameNode("c", 0), nameNode("d", 1), nameNode("e", 1)}, Files: turned})
	makes(t, "renamed ahead", two, renames("c", "a"), api.Tree{Nodes: []api.Node{nameNode("a", 0), nameNode("b", 1), nameNode("d", 1)}, Files: turned})
	makes(t, "linked ahead", two, links("c", "a"), api.Tree{Nodes: []api.Node{nameNode("a", 0), nameNode("b", 1), nameNode("c", 0), nameNode("d", 1)}, Files: turned})
	makes(t, "copied ahead", two, copies("d", "a", 3), api.Tree{Nodes: []api.Node{nameNode("a", 0), nameNode("b", 1), nameNode("c", 2), nameNode("d", 1)}, Files: []api.File{text(3, "one"), one, other}})
	makes(t, "copied with its mode", two, copies("b", "e", 1), api.Tree{Nodes: []api.Node{nameNode("b", 0), nameNode("c", 1), nameNode("d", 0), nameNode("e", 2)}, Files: []api.File{one, other, one}})
	makes(t, "written ahead", two, writes("a", 511, 0), api.Tree{Nodes: []api.Node{nameNode("a", 0), nameNode("b", 1), nameNode("c", 2), nameNode("d", 1)}, Files: []api.File{text(511, "new"), one, other}})
	makes(t, "mode by another name", two, chmods("d", 0), api.Tree{Nodes: two.Nodes, Files: []api.File{text(0, "one"), other}})
	makes(t, "a directory's mode", sample(), chmods("a", 511), api.Tree{Nodes: []api.Node{dirNode("a", 511), nameNode("a/x", 0)}, Files: sample().Files})
	makes(t, "the only name gone", sample(), unlinks("a/x"), api.Tree{Nodes: []api.Node{dirNode("a", 493)}})
	makes(t, "from nothing", api.Tree{}, mkdirs("a", 7), api.Tree{Nodes: []api.Node{dirNode("a", 7)}})
	between := api.Tree{Nodes: []api.Node{dirNode("a", 1), dirNode("a-", 2), dirNode("a/x", 3)}}
	makes(t, "in among", between, mkdirs("a.b", 4), api.Tree{Nodes: []api.Node{dirNode("a", 1), dirNode("a-", 2), dirNode("a.b", 4), dirNode("a/x", 3)}})
	makes(t, "empty, of the same beginning", between, rmdirs("a-"), api.Tree{Nodes: []api.Node{dirNode("a", 1), dirNode("a/x", 3)}})
}

// TestP701Edges: the greatest modes, contents, depths and names.
func TestP701Edges(t *testing.T) {
	stock := [][]byte{nil, bytes.Repeat([]byte{7}, api.MaxData)}
	for ref, content := range stock {
		got, e := Do(api.Tree{}, writes("f", 511, ref), stock)
		is(t, "write", e, api.OK)
		same(t, "write", got, api.Tree{Nodes: []api.Node{nameNode("f", 0)}, Files: []api.File{{Mode: 511, Data: content}}})
	}
	var x api.Tree
	p := ""
	for i := range api.MaxDepth {
		p = strings.TrimPrefix(p+"/"+strings.Repeat("n", api.MaxName), "/")
		var e api.Errno
		x, e = Do(x, mkdirs(p, i), nil)
		is(t, "deep", e, api.OK)
	}
	is(t, "deep", len(x.Nodes), api.MaxDepth)
	refuses(t, "too deep", x, mkdirs(p+"/n", 0), nil, api.ErrPath)
	refuses(t, "filled", x, rmdirs(path.Parent(p)), nil, api.ErrFilled)
	// A stock may be above any limit, as long as the content is not.
	got, e := Do(sample(), writes("b", 0, 9), [][]byte{9: []byte("z"), 10: make([]byte, api.MaxStock+1)})
	is(t, "great stock", e, api.OK)
	is(t, "great stock", string(got.Files[1].Data), "z")
}

func TestP701Bound(t *testing.T) {
	full := flat(api.MaxLoose)
	last := full.Nodes[255].Path
	full.Nodes[255] = nameNode(last, 0)
	full.Files = []api.File{text(1, "x")}
	for _, ins := range []api.Ins{mkdirs("a", 0), writes("a", 0, 0), links(last, "a"), copies(last, "a", 0), mkdirs("n1000/a", 0)} {
		refuses(t, "one more", full, ins, fresh, api.ErrBound)
		less := api.Tree{Nodes: full.Nodes[1:], Files: full.Files}
		if ins.Path == "n1000/a" {
			less.Nodes = append(slices.Clone(full.Nodes[:1]), full.Nodes[2:]...)
		}
		got, e := Do(less, ins, fresh)
		is(t, "as many as may be", e, api.OK)
		is(t, "as many as may be", len(got.Nodes), api.MaxLoose)
	}
	for _, ins := range []api.Ins{mkdirs("no/no", 0), writes("no/no", 0, 0), links(last, "no/no"), copies(last, "no/no", 0)} {
		refuses(t, "nowhere", full, ins, fresh, api.ErrNone)
	}
	for _, ins := range []api.Ins{mkdirs("n1000", 0), writes("n1000", 0, 0), links(last, "n1000"), copies(last, "n1000", 0)} {
		refuses(t, "there", full, ins, fresh, api.ErrExists)
	}
	for _, ins := range []api.Ins{renames(last, "a"), renames(last, "n1000/a"), chmods(last, 0), chmods("n1000", 0), rmdirs("n1000"), unlinks(last), {Op: api.OpSync}} {
		_, e := Do(full, ins, fresh)
		is(t, "no more", e, api.OK)
	}
	// As many files as nodes: the bound is one of nodes.
	list := []api.Ins{writes("n0", 1, 0)}
	for i := 1; i < api.MaxLoose; i++ {
		list = append(list, copies("n0", "n"+strconv.Itoa(i), i))
	}
	x, n, e := Run(api.Tree{}, list, fresh)
	is(t, "all files", e, api.OK)
	is(t, "all files", [3]int{n, len(x.Nodes), len(x.Files)}, [3]int{256, 256, 256})
	refuses(t, "one file more", x, writes("a", 1, 0), fresh, api.ErrBound)
}

// thing is a directory or a file of a small file system by other means: directories hold names, names hold things.
type thing struct {
	kids map[string]*thing
	mode int
	data string
}

func (d *thing) isDir() bool { return d.kids != nil }

// grown makes things of a tree.
func grown(x api.Tree) *thing {
	root := &thing{kids: map[string]*thing{}}
	files := map[int]*thing{}
	for _, n := range x.Nodes {
		made := &thing{kids: map[string]*thing{}, mode: n.Mode}
		if n.File >= 0 {
			if files[n.File] == nil {
				files[n.File] = &thing{mode: x.Files[n.File].Mode, data: string(x.Files[n.File].Data)}
			}
			made = files[n.File]
		}
		up, base, _ := root.seek(n.Path)
		up.kids[base] = made
	}
	return root
}

// seek goes to the directory that has a path's last name.
func (d *thing) seek(p string) (*thing, string, api.Errno) {
	names := strings.Split(p, "/")
	for _, n := range names[:len(names)-1] {
		switch next := d.kids[n]; {
		case next == nil:
			return nil, "", api.ErrNone
		case !next.isDir():
			return nil, "", api.ErrNotDir
		default:
			d = next
		}
	}
	return d, names[len(names)-1], api.OK
}

// felled makes a tree of things.
func (d *thing) felled() api.Tree {
	at := map[string]*thing{}
	var collect func(d *thing, ahead string)
	collect = func(d *thing, ahead string) {
		for n, k := range d.kids {
			at[ahead+n] = k
			collect(k, ahead+n+"/")
		}
	}
	collect(d, "")
	var x api.Tree
	numbers := map[*thing]int{}
	for _, p := range slices.Sorted(maps.Keys(at)) {
		k := at[p]
		if k.isDir() {
			x.Nodes = append(x.Nodes, dirNode(p, k.mode))
			continue
		}
		if _, ok := numbers[k]; !ok {
			numbers[k] = len(x.Files)
			x.Files = append(x.Files, text(k.mode, k.data))
		}
		x.Nodes = append(x.Nodes, nameNode(p, numbers[k]))
	}
	return x
}

// wrongFields tells what of an instruction is refused whatever the tree is.
func wrongFields(ins api.Ins, stock [][]byte) api.Errno {
	mode, to, ref := fields(ins.Op)
	switch {
	case ins.Op < 1 || ins.Op > 9:
		return api.ErrOp
	case mode && (ins.Mode < 0 || ins.Mode > 511):
		return api.ErrMode
	case ins.Path == "" || to && ins.To == "":
		return api.ErrRoot
	case !path.Valid(ins.Path) || to && !path.Valid(ins.To):
		return api.ErrPath
	case ref && (ins.Ref < 0 || ins.Ref >= len(stock)):
		return api.ErrMissing
	case ref && len(stock[ins.Ref]) > 8192:
		return api.ErrLong
	}
	return api.OK
}

// do does an instruction to things, by the words of the chapter one by one.
func (d *thing) do(ins api.Ins, stock [][]byte) api.Errno {
	if ins.Op == api.OpSync {
		return api.OK
	}
	if e := wrongFields(ins, stock); e != api.OK {
		return e
	}
	up, base, e := d.seek(ins.Path)
	if e != api.OK {
		return e
	}
	there := up.kids[base]
	if ins.Op == api.OpMkdir || ins.Op == api.OpWrite {
		if there != nil {
			return api.ErrExists
		}
		up.kids[base] = &thing{mode: ins.Mode}
		if ins.Op == api.OpMkdir {
			up.kids[base].kids = map[string]*thing{}
		} else {
			up.kids[base].data = string(stock[ins.Ref])
		}
		return api.OK
	}
	switch {
	case there == nil:
		return api.ErrNone
	case ins.Op == api.OpChmod:
		there.mode = ins.Mode
		return api.OK
	case ins.Op == api.OpRmdir && !there.isDir():
		return api.ErrNotDir
	case ins.Op == api.OpRmdir && len(there.kids) > 0:
		return api.ErrFilled
	case ins.Op != api.OpRmdir && there.isDir():
		return api.ErrIsDir
	case ins.Op == api.OpRmdir || ins.Op == api.OpUnlink:
		delete(up.kids, base)
		return api.OK
	}
	return d.doTo(ins, there, func() { delete(up.kids, base) })
}

// doTo does what has a To: gone takes the first name away.
func (d *thing) doTo(ins api.Ins, there *thing, gone func()) api.Errno {
	up, base, e := d.seek(ins.To)
	if e != api.OK {
		return e
	}
	if up.kids[base] != nil {
		return api.ErrExists
	}
	switch ins.Op {
	case api.OpRename:
		gone()
		up.kids[base] = there
	case api.OpLink:
		up.kids[base] = there
	case api.OpCopy:
		up.kids[base] = &thing{mode: ins.Mode, data: there.data}
	}
	return api.OK
}

// small are all loose trees of these paths, of directories and of two files.
func small(paths []string) []api.Tree {
	var l []api.Tree
	files := []api.File{text(1, "x"), text(2, "")}
	var grow func(left []string, have []api.Node)
	grow = func(left []string, have []api.Node) {
		if len(left) > 0 {
			grow(left[1:], have)
			for _, n := range []api.Node{dirNode(left[0], 3), nameNode(left[0], 0), nameNode(left[0], 1)} {
				grow(left[1:], append(slices.Clip(have), n))
			}
			return
		}
		for named := range len(files) + 1 {
			if x := (api.Tree{Nodes: have, Files: files[:named]}); tree.Loose(x) == api.OK {
				l = append(l, x)
			}
		}
	}
	grow(paths, nil)
	return l
}

// TestP701All holds what each instruction does to each small tree against the things.
func TestP701All(t *testing.T) {
	paths := []string{"", "a", "a/b", "a/b/c", "a0", "b", "b/c", "/"}
	stock := [][]byte{[]byte("x"), nil}
	var list []api.Ins
	for op := api.OpMkdir; op <= api.OpSync; op++ {
		for _, p := range paths {
			for _, mode := range []int{0, 512} {
				for _, to := range paths {
					list = append(list, api.Ins{Op: op, Path: p, To: to, Mode: mode, Ref: len(list) % 3})
				}
			}
		}
	}
	trees, done := small([]string{"a", "a/b", "a/b/c", "a0", "b"}), 0
	for _, x := range trees {
		for _, ins := range list {
			things := grown(x)
			want := things.do(ins, stock)
			got, e := Do(x, ins, stock)
			switch {
			case e != want:
				t.Fatalf("Do(%v, %+v): %v, want %v", x, ins, e, want)
			case e != api.OK:
				continue
			case !tree.Same(got, things.felled()):
				t.Fatalf("Do(%v, %+v): %v, want %v", x, ins, got, things.felled())
			}
			done++
		}
	}
	if len(trees) < 80 || done < 10000 {
		t.Errorf("only %d trees, %d instructions done", len(trees), done)
	}
}

// tries are instructions over a few paths; most are done by some tree.
func tries(r *rand.Rand, n int) []api.Ins {
	names := []string{"a", "b", "c", "a/a", "a/b", "b/a", "a/b/a", "a/b/b", ".ts-0", "b/c"}
	var l []api.Ins
	for range n {
		l = append(l, api.Ins{Op: 1 + r.Intn(9), Path: names[r.Intn(len(names))], To: names[r.Intn(len(names))], Mode: r.Intn(512), Ref: r.Intn(3)})
	}
	return l
}

var contents = [][]byte{[]byte("zero"), nil, bytes.Repeat([]byte("two"), 2000)}

func TestP702Run(t *testing.T) {
	list := []api.Ins{mkdirs("b", 7), renames("a/x", "b/y"), rmdirs("a"), rmdirs("a"), mkdirs("c", 1)}
	want := api.Tree{Nodes: []api.Node{dirNode("b", 7), nameNode("b/y", 0)}, Files: []api.File{text(420, "hi")}}
	got, n, e := Run(sample(), list[:3], nil)
	is(t, "all", e, api.OK)
	is(t, "all", n, 3)
	same(t, "all", got, want)
	got, n, e = Run(sample(), list, nil)
	is(t, "some", e, api.ErrNone)
	is(t, "some", n, 3)
	same(t, "some", got, want)
	got, n, e = Run(sample(), list[2:], nil)
	is(t, "none", e, api.ErrFilled)
	is(t, "none", n, 0)
	same(t, "none", got, sample())
	got, n, e = Run(sample(), nil, nil)
	is(t, "empty", e, api.OK)
	is(t, "empty", n, 0)
	same(t, "empty", got, sample())
	_, n, e = Run(flat(256), []api.Ins{{Op: api.OpSync}, mkdirs("a", 0)}, nil)
	is(t, "bound", e, api.ErrBound)
	is(t, "bound", n, 1)
}

func TestP702Long(t *testing.T) {
	list := slices.Repeat([]api.Ins{mkdirs("d", 0), rmdirs("d")}, api.MaxIns/2)
	got, n, e := Run(sample(), list, nil)
	is(t, "as many as may be", e, api.OK)
	is(t, "as many as may be", n, api.MaxIns)
	same(t, "as many as may be", got, sample())
	curve, n, e := Curve(sample(), list, nil)
	is(t, "as many as may be: Curve", e, api.OK)
	is(t, "as many as may be: Curve", n, api.MaxIns)
	is(t, "as many as may be: Curve", len(curve), api.MaxIns+1)
	peak, e := Peak(sample(), list, nil)
	is(t, "as many as may be: Peak", e, api.OK)
	is(t, "as many as may be: Peak", peak, 4+4i)
	for _, list := range [][]api.Ins{append(list, api.Ins{Op: api.OpSync}), make([]api.Ins, api.MaxIns+1)} {
		got, n, e = Run(sample(), list, nil)
		is(t, "one more", e, api.ErrLong)
		is(t, "one more", n+len(got.Nodes)+len(got.Files), 0)
		curve, n, e = Curve(sample(), list, nil)
		is(t, "one more: Curve", e, api.ErrLong)
		is(t, "one more: Curve", n+len(curve), 0)
		peak, e = Peak(sample(), list, nil)
		is(t, "one more: Peak", e, api.ErrLong)
		is(t, "one more: Peak", peak, 0)
	}
}

// TestP702Steps holds Run, Curve and Peak of long lists against Do, one instruction behind the other.
func TestP702Steps(t *testing.T) {
	r := rand.New(rand.NewSource(7))
	for range 60 {
		x, things := wide(), grown(wide())
		var done []api.Ins
		for _, ins := range tries(r, 150) {
			next, e := Do(x, ins, contents)
			is(t, "Do", e, things.do(ins, contents))
			last, n, f := Run(wide(), append(done, ins), contents)
			is(t, "Run", f, e)
			if e != api.OK {
				is(t, "Run, refused", n, len(done))
				same(t, "Run, refused", last, x)
				continue
			}
			x, done = next, append(done, ins)
			is(t, "Run", n, len(done))
			same(t, "Run", last, x)
		}
		same(t, "all", x, things.felled())
		curves(t, done)
	}
}

// curves holds Curve and Peak of a list that wide's tree takes against the weights of what Run makes of its beginnings.
func curves(t *testing.T, list []api.Ins) {
	t.Helper()
	curve, n, e := Curve(wide(), list, contents)
	is(t, "Curve", e, api.OK)
	is(t, "Curve", n, len(list))
	is(t, "Curve", len(curve), len(list)+1)
	var blocks, inodes float64
	for i, w := range curve {
		x, _, _ := Run(wide(), list[:i], contents)
		want, _ := tree.Weight(x)
		is(t, "Curve", w, want)
		blocks, inodes = max(blocks, real(want)), max(inodes, imag(want))
	}
	peak, e := Peak(wide(), list, contents)
	is(t, "Peak", e, api.OK)
	is(t, "Peak", peak, complex(blocks, inodes))
	refused := append(slices.Clone(list), mkdirs("x/y", 0), mkdirs("x", 0))
	again, n, e := Curve(wide(), refused, contents)
	is(t, "Curve, refused", e, api.ErrNone)
	is(t, "Curve, refused", n, len(list))
	is(t, "Curve, refused", slices.Equal(again, curve), true)
	peak, e = Peak(wide(), refused, contents)
	is(t, "Peak, refused", e, api.ErrNone)
	is(t, "Peak, refused", peak, 0)
}

func TestP703Curve(t *testing.T) {
	stock := [][]byte{make([]byte, 5000), make([]byte, 600)}
	list := []api.Ins{writes("b", 1, 0), links("b", "c"), unlinks("b"), mkdirs("d", 1), copies("a/x", "d/x", 1), unlinks("c"), {Op: api.OpSync}, chmods("d", 2), writes("e", 1, 1), writes("e", 1, 1)}
	want := []complex128{3 + 3i, 14 + 4i, 14 + 4i, 14 + 4i, 15 + 5i, 16 + 6i, 5 + 5i, 5 + 5i, 5 + 5i, 7 + 6i}
	curve, n, e := Curve(sample(), list, stock)
	is(t, "refused", e, api.ErrExists)
	is(t, "refused", n, 9)
	is(t, "refused", slices.Equal(curve, want), true)
	peak, e := Peak(sample(), list[:9], stock)
	is(t, "peak", e, api.OK)
	is(t, "peak", peak, 16+6i)
	// The parts of a peak may be those of two moments: first many blocks, then many inodes.
	list = []api.Ins{writes("b", 1, 0), unlinks("b"), mkdirs("d", 1), mkdirs("e", 1)}
	peak, e = Peak(sample(), list, stock)
	is(t, "peak of two moments", e, api.OK)
	is(t, "peak of two moments", peak, 14+5i)
	// It may be at the beginning.
	peak, e = Peak(sample(), []api.Ins{unlinks("a/x"), rmdirs("a")}, stock)
	is(t, "peak at the beginning", e, api.OK)
	is(t, "peak at the beginning", peak, 3+3i)
	curve, n, e = Curve(api.Tree{}, nil, nil)
	is(t, "nothing", e, api.OK)
	is(t, "nothing", n, 0)
	is(t, "nothing", slices.Equal(curve, []complex128{1 + 1i}), true)
}

// TestP704 holds what no instruction names against what it was.
func TestP704(t *testing.T) {
	r := rand.New(rand.NewSource(11))
	touched := func(list []api.Ins, p string) bool {
		return slices.ContainsFunc(list, func(ins api.Ins) bool {
			return ins.Path == p || ins.To == p || path.Under(ins.Path, p) || path.Under(ins.To, p)
		})
	}
	seen := 0
	for range 300 {
		x, _, _ := Run(wide(), tries(r, 1), contents)
		for _, ins := range tries(r, 40) {
			x, _, _ = Run(x, []api.Ins{ins}, contents)
		}
		list := tries(r, 3)
		y, n, _ := Run(x, list, contents)
		list = list[:n]
		stay := map[int]int{} // of x's files those of y
		for _, n := range x.Nodes {
			if touched(list, n.Path) {
				continue
			}
			seen++
			at := tree.Find(y, n.Path)
			if at < 0 {
				t.Fatalf("%v, %+v: %s is gone", x, list, n.Path)
			}
			m := y.Nodes[at]
			if n.File < 0 {
				is(t, n.Path, m, n)
				continue
			}
			if was, ok := stay[n.File]; ok {
				is(t, n.Path, m.File, was)
			}
			stay[n.File] = m.File
			is(t, n.Path, string(y.Files[m.File].Data), string(x.Files[n.File].Data))
			is(t, n.Path, y.Files[m.File].Mode == x.Files[n.File].Mode || slices.ContainsFunc(list, func(ins api.Ins) bool { return ins.Op == api.OpChmod }), true)
		}
		is(t, "two files stay two", len(slices.Compact(slices.Sorted(maps.Values(stay)))), len(stay))
	}
	if seen < 500 {
		t.Errorf("only %d nodes seen", seen)
	}
}

// roomy has spare room behind each list, with things in it.
func roomy(x api.Tree) api.Tree {
	y := api.Tree{Nodes: append(slices.Clone(x.Nodes), dirNode("spare", 77)), Files: append(slices.Clone(x.Files), text(11, "room"))}
	for i, f := range x.Files {
		y.Files[i].Data = spare(f.Data)
	}
	y.Nodes, y.Files = y.Nodes[:len(x.Nodes)], y.Files[:len(x.Files)]
	return y
}

func spare(b []byte) []byte { return append(slices.Clone(b), "spare"...)[:len(b)] }

// all is what lists have, in their spare room, too.
func all(x api.Tree, list []api.Ins, stock [][]byte) [4]any {
	nodes, files := slices.Clone(x.Nodes[:cap(x.Nodes)]), slices.Clone(x.Files[:cap(x.Files)])
	for i, f := range files {
		files[i].Data = slices.Clone(f.Data[:cap(f.Data)])
	}
	stock = slices.Clone(stock[:cap(stock)])
	for i, b := range stock {
		stock[i] = slices.Clone(b[:cap(b)])
	}
	return [4]any{nodes, files, slices.Clone(list[:cap(list)]), stock}
}

// spoil writes into all that was answered, into the room behind it, too.
func spoil(x api.Tree) {
	nodes, files := x.Nodes[:cap(x.Nodes)], x.Files[:cap(x.Files)]
	for _, f := range files {
		b := f.Data[:cap(f.Data)]
		for i := range b {
			b[i] ^= 255
		}
	}
	for i := range nodes {
		nodes[i] = dirNode("spoilt", 9)
	}
	clear(files)
}

// TestP705Stays: what is handed in stays, whatever is done with what was answered.
func TestP705Stays(t *testing.T) {
	lists := [][]api.Ins{nil, {renames("d/f", "b"), copies("f", "g", 1), links("g", "h"), chmods("g", 2), writes("i", 3, 0), unlinks("z"), rmdirs("e"), mkdirs("j", 4), {Op: api.OpSync}, rmdirs("x")}}
	for _, ins := range every() {
		lists = append(lists, []api.Ins{ins}, []api.Ins{ins, {Op: -1}})
	}
	for _, l := range lists {
		x := roomy(wide())
		list := append(slices.Clone(l), mkdirs("spare", 1))[:len(l)]
		stock := append([][]byte{spare([]byte("new")), spare(nil)}, []byte("room"))[:2]
		was := all(x, list, stock)
		var answers [2]api.Tree
		var curves [2][]complex128
		for i := range 2 {
			answers[i], _, _ = Run(x, list, stock)
			curves[i], _, _ = Curve(x, list, stock)
			Peak(x, list, stock)
		}
		if !tree.Same(answers[0], answers[1]) || !slices.Equal(curves[0], curves[1]) {
			t.Fatalf("%+v: two answers", list)
		}
		spoil(answers[0])
		clear(curves[0][:cap(curves[0])])
		is(t, "stays", reflect.DeepEqual(all(x, list, stock), was), true)
		again, _, _ := Run(x, list, stock)
		same(t, "the other answer", answers[1], again)
		for _, ins := range list {
			got, _ := Do(x, ins, stock)
			spoil(got)
		}
		is(t, "stays behind Do", reflect.DeepEqual(all(x, list, stock), was), true)
		curve, _, _ := Curve(x, list, stock)
		is(t, "the other curve", slices.Equal(curves[1], curve), true)
	}
}

// TestP705Own: no two files of an answer share bytes, though they came from one.
func TestP705Own(t *testing.T) {
	shared := []byte("both")
	x := api.Tree{Nodes: []api.Node{nameNode("a", 0), nameNode("b", 1)}, Files: []api.File{{Data: shared}, {Data: shared}}}
	list := []api.Ins{copies("a", "c", 0), copies("c", "d", 0), writes("e", 0, 0), writes("f", 0, 0), writes("g", 0, 1), copies("g", "h", 0)}
	got, _, e := Run(x, list, [][]byte{shared, shared})
	is(t, "Run", e, api.OK)
	is(t, "Run", len(got.Files), 8)
	for i := range got.Files {
		got.Files[i].Data[0] = byte('0' + i)
		got.Files[i].Data = append(got.Files[i].Data, byte('0'+i))
	}
	for i, f := range got.Files {
		is(t, "own bytes", string(f.Data), strconv.Itoa(i)+"oth"+strconv.Itoa(i))
	}
	is(t, "what was handed in", string(shared), "both")
	got, e = Do(x, copies("a", "c", 0), nil)
	is(t, "Do", e, api.OK)
	got.Files[0].Data[0] = 'B'
	is(t, "own bytes of Do", string(got.Files[1].Data)+string(got.Files[2].Data)+string(shared), "bothbothboth")
}
