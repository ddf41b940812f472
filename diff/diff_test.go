package diff

import (
	"bytes"
	"math/rand"
	"reflect"
	"runtime"
	"slices"
	"strconv"
	"strings"
	"sync"
	"testing"
	"time"

	"shunt/api"
	"shunt/match"
	"shunt/sample"
	"shunt/tree"
)

// is holds what a call answered against what it should have.
func is[T comparable](t *testing.T, what string, got, want T) {
	t.Helper()
	if got != want {
		t.Errorf("%s: %v, want %v", what, got, want)
	}
}

// acts wants Acts to tell these actions.
func acts(t *testing.T, what string, a, b api.Tree, stock [][]byte, want []api.Act) {
	t.Helper()
	got, e := Acts(a, b, stock)
	if e != api.OK || !slices.Equal(got, want) {
		t.Errorf("%s: %v, %v, want %v", what, got, e, want)
	}
}

// rows are trees, and what is to be done between them, with the stock x, y, x, z.
type rows []struct{ s, t, want string }

func (r rows) hold(t *testing.T) {
	t.Helper()
	for _, x := range r {
		acts(t, x.s+" to "+x.t, sample.Tree(t, x.s), sample.Tree(t, x.t), sample.Contents("x", "y", "x", "z"), sample.Acts(t, x.want))
	}
}

// TestP1201Unlinks: group 1.
func TestP1201Unlinks(t *testing.T) {
	rows{
		{"a=x", "", "unlink a"},
		{"a=", "", "unlink a"},
		{"a=x b=x c=y", "", "unlink a; unlink b; unlink c"},
		{"a=x b>a", "", "unlink a; unlink b"},
		{"a/ a/b=x", "a/", "unlink a/b"},
		// what is left, and what nothing keeps, in one row
		{"a=x b>a c>a", "b=x", "unlink a; unlink c"},
		{"a=x b=y c>a d=y", "c=x d=y", "unlink a; unlink b"},
		{"a=y b=x c>b d=y", "c=x", "unlink a; unlink b; unlink d"},
		{"d=y c=x b>c a=z", "c=x", "unlink a; unlink b; unlink d"},
		// by their bytes, not by their names
		{"a/ a/b=y a-b=y a.b=y a0=y", "a/", "unlink a-b; unlink a.b; unlink a/b; unlink a0"},
		// left names behind those that have pairs
		{"a=x b>a c>a", "d=x", "unlink b; unlink c; rename a d"},
		{"a=x b>a c>a e>a", "c=x d>c", "unlink b; unlink e; rename a d"},
		{"a=x b>a c>a e>a", "0=x d>0", "unlink c; unlink e; rename a 0; rename b d"},
		// a name whose file goes and another one comes
		{"a=x b=y", "a=y", "unlink a; rename b a"},
		{"a=x", "a=y", "unlink a; write a 420 1"},
		{"a=x b>a", "a=x b=y", "unlink b; write b 420 1"},
		{"a=x", "a/", "unlink a; mkdir a 493"},
		// one of two files that are alike
		{"a=x b=x", "b=x", "unlink a"},
		{"a=x b=x", "c=x", "unlink b; rename a c"},
		{"a=x b=x", "a=x b>a", "unlink b; link a b"},
	}.hold(t)
}

// TestP1201Dirs: groups 2 and 3.
func TestP1201Dirs(t *testing.T) {
	rows{
		{"a/", "", "rmdir a"},
		{"", "a/", "mkdir a 493"},
		{"", "a/:0 b/:511 c/:448", "mkdir a 0; mkdir b 511; mkdir c 448"},
		{"a/", "a/", ""},
		{"a/", "b/", "rmdir a; mkdir b 493"},
		// rising, in and out alike: nothing is said of when
		{"a/ a/b/ a/b/c/ d/", "", "rmdir a; rmdir a/b; rmdir a/b/c; rmdir d"},
		{"", "d/:1 a/:2 a/b/:3 a/b/c/:4", "mkdir a 2; mkdir a/b 3; mkdir a/b/c 4; mkdir d 1"},
		{"a/ a/b/ a-b/ a0/", "", "rmdir a; rmdir a-b; rmdir a/b; rmdir a0"},
		{"", "a/ a/b/ a-b/ a0/", "mkdir a 493; mkdir a-b 493; mkdir a/b 493; mkdir a0 493"},
		{"a/ a/b/ c/", "a/ a/d/ c/ c/b/", "rmdir a/b; mkdir a/d 493; mkdir c/b 493"},
		// a file takes the place, or gives it
		{"a/", "a=x", "rmdir a; write a 420 0"},
		{"a/ a/b=x", "a=x", "rmdir a; rename a/b a"},
		{"a=x", "a/:7 a/b=x", "mkdir a 7; rename a a/b"},
		{"a/ a/b/ a/b/c=x", "a/ a/b=x", "rmdir a/b; rename a/b/c a/b"},
	}.hold(t)
}

// TestP1201Renames: group 4.
func TestP1201Renames(t *testing.T) {
	rows{
		{"a=x", "b=x", "rename a b"},
		{"a=", "b=", "rename a b"},
		{"a=x b=y", "a=y b=x", "rename b a; rename a b"},
		{"a=x b=y c=z", "a=z b=x c=y", "rename c a; rename a b; rename b c"},
		// by rising new names, over all files
		{"a=x b=y", "c=y d=x", "rename b c; rename a d"},
		{"a=x b=y c=z", "0=z 1=x 2=y", "rename c 0; rename a 1; rename b 2"},
		{"a/ a/b=z c=x d=y", "a/ a-b=x a.b=y a/c=z", "rename c a-b; rename d a.b; rename a/b a/c"},
		// the i-th left one with the i-th new one
		{"a=x b>a", "c=x d>c", "rename a c; rename b d"},
		{"b=x d>b", "a=x c>a", "rename b a; rename d c"},
		{"a=x c>a e>a", "b=x c>b d>b f>b", "rename a b; rename e d; link c f"},
		{"a=x b>a", "b=x c>b", "rename a c"},
		{"b=x c>b", "a=x b>a", "rename c a"},
		// with the names of others between them
		{"a=x b=y c>a d>b", "a=y b=x c>a d>b", "rename b a; rename a b; rename d c; rename c d"},
		{"a=x b=y c>a d>b e>a", "0=y 1=x 2>0 3>1", "unlink e; rename b 0; rename a 1; rename d 2; rename c 3"},
	}.hold(t)
}

// TestP1201Makes: group 5.
func TestP1201Makes(t *testing.T) {
	rows{
		{"", "a=x", "write a 420 0"},
		{"", "a=y:0 b=z:511", "write a 0 1; write b 511 3"},
		// the first name, by their order
		{"", "b=z c>b a=y d>a", "write a 420 1; write b 420 3; link b c; link a d"},
		{"", "a/ a/b=y a-b=z a.b=x", "mkdir a 493; write a-b 420 3; write a.b 420 0; write a/b 420 1"},
		// copies of what is new: once written
		{"", "a=z:1 b=z:2 c=z:3", "write a 1 3; copy a b 2; copy a c 3"},
		{"", "a=z b>a c=y d=z:7 e=y:8", "write a 420 3; write c 420 1; copy a d 7; copy c e 8; link a b"},
		// copies of what is kept, and of what first name that has: one that stays ahead of the new ones
		{"a=x", "a=x b=x:384", "copy a b 384"},
		{"z=x", "a=x:1 b=x:2 z=x", "copy z a 1; copy z b 2"},
		{"m=x", "b=x m>b z=x", "copy m z 420; link m b"},
		{"m=x n>m", "b=x m>b n>b z=x", "copy m z 420; link m b"},
		{"a=x n>a", "b=x n>b z=x", "rename a b; copy n z 420"},
		{"m=x", "b=x c>b d=x e=x", "rename m b; copy b d 420; copy b e 420; link b c"},
		{"m=w", "b=w:1 d=w:2", "rename m b; copy b d 2; chmod b 1"},
		// the first name is no link, the others are
		{"a=x", "a=x b=x c>b d=x e>d", "copy a b 420; copy a d 420; link b c; link d e"},
		// in the order of the files, whatever they are
		{"c=x", "a=z b=x c=x d=y e=z", "write a 420 3; copy c b 420; write d 420 1; copy a e 420"},
	}.hold(t)
}

// TestP1201Links: group 6.
func TestP1201Links(t *testing.T) {
	rows{
		{"a=x", "a=x b>a", "link a b"},
		{"a=x", "a=x b>a c>a", "link a b; link a c"},
		// from the first name that stays, wherever that stands
		{"c=x", "a=x b>a c>a", "link c a; link c b"},
		{"b=x c>b", "a=x b>a c>a d>a", "link b a; link b d"},
		// pairs come first; what stays is the anchor nevertheless
		{"0=x c>0", "a=x b>a c>a", "rename 0 a; link c b"},
		// else from the first new name
		{"d=x", "a=x b>a c>a", "rename d a; link a b; link a c"},
		{"a=x", "b=x c>b d>b", "rename a b; link b c; link b d"},
		// over all files by rising names
		{"a=x b=y", "a=x b=y c>b d>a e>b", "link b c; link a d; link b e"},
		{"b=y", "a=z b=y c>a d>b e>a", "write a 420 3; link a c; link b d; link a e"},
		{"a=x b/", "a=x b/ b/c>a b-c>a b.c>a b0>a", "link a b-c; link a b.c; link a b/c; link a b0"},
		// on names that others had
		{"a=x b=y", "a=x b>a", "unlink b; link a b"},
		{"a=x b=y", "a=x b>a c=y", "rename b c; link a b"},
		{"a=x b/", "a=x b>a", "rmdir b; link a b"},
	}.hold(t)
}

// TestP1201Chmods: group 7.
func TestP1201Chmods(t *testing.T) {
	rows{
		{"a/:1", "a/:2", "chmod a 2"},
		{"a/:1 b/:2", "a/:2 b/:1", "chmod a 2; chmod b 1"},
		{"a=x:1", "a=x:0", "chmod a 0"},
		{"a=x:1 b>a", "a=x:2 b>a", "chmod a 2"},
		// the first name in t, whatever it is there
		{"a=x:1", "b=x:2", "rename a b; chmod b 2"},
		{"b=x:1", "a=x:2 b>a", "link b a; chmod a 2"},
		{"a=x:1 b>a", "b=x:2", "unlink a; chmod b 2"},
		{"a=x:1 c>a", "b=x:2 c>b", "rename a b; chmod b 2"},
		// directories and files in one row
		{"a=x:1 b/:2 c=y:3 d/:4", "a=x:5 b/:6 c=y:7 d/:8", "chmod a 5; chmod b 6; chmod c 7; chmod d 8"},
		{"b/:1 b/c=x:2 b-c=y:3 b0/:4", "b/:5 b/c=x:6 b-c=y:7 b0/:8", "chmod b 5; chmod b-c 7; chmod b/c 6; chmod b0 8"},
		// which one is kept is not a matter of modes
		{"a=x:1 b=x:2", "a=x:2 b=x:1", "chmod a 2; chmod b 1"},
		{"a=w:1 b=v:2", "a=v:1 b=w:2", "rename b a; rename a b; chmod a 1; chmod b 2"},
		// of what is made there is none
		{"a/:1", "a=x:2", "rmdir a; write a 2 0"},
		{"a=x:1", "a/:2", "unlink a; mkdir a 2"},
		{"a=x:1", "a=x:1 b=x:2", "copy a b 2"},
		{"a=x:1", "a=z:2", "unlink a; write a 2 3"},
	}.hold(t)
}

// TestP1201Groups: one group behind the other.
func TestP1201Groups(t *testing.T) {
	a := sample.Tree(t, "a/:1 b=v c>b d/ d/e=u f=w:3 g/")
	b := sample.Tree(t, "a/:2 b/:4 b/a=v:5 d=u g/ g/h=z:6 g/i>g/h i=z k>d m=u:8")
	acts(t, "all groups", a, b, sample.Contents("y", "z"), sample.Acts(t,
		"unlink c; unlink f; rmdir d; mkdir b 4; rename b b/a; rename d/e d; write g/h 6 1; copy g/h i 420; copy d m 8; link g/h g/i; link d k; chmod a 2; chmod b/a 5"))
}

// TestP1201Errors: of all that is wrong the first thing is told, as match.Match tells it, and nothing else.
func TestP1201Errors(t *testing.T) {
	one := []api.File{{Data: []byte("x")}}
	good, missing := sample.Tree(t, "a=x b/"), sample.Tree(t, "a=x b=y")
	trees := []api.Tree{good, missing, {}, sample.Flat(api.MaxNodes), sample.Flat(api.MaxNodes + 1), sample.Flat(api.MaxLoose + 1),
		{Files: make([]api.File, api.MaxLoose+1)}, {Nodes: make([]api.Node, api.MaxNodes+1)},
		{Nodes: []api.Node{{Path: "a"}}, Files: []api.File{{Data: make([]byte, api.MaxData+1)}}},
		{Files: one}, {Nodes: []api.Node{{Path: "a"}}}, {Nodes: []api.Node{{Path: "a", File: -2}}, Files: one},
		{Nodes: []api.Node{{Path: "a"}, {Path: "b", File: 7}}, Files: one}, {Nodes: []api.Node{{Path: "b"}, {Path: "a"}}, Files: one},
		{Nodes: []api.Node{{Path: "a/b"}}, Files: one}, {Nodes: []api.Node{{Path: ""}}, Files: one},
		{Nodes: []api.Node{{Path: ".ts-0"}}, Files: one}, {Nodes: []api.Node{{Path: "a", File: -1, Mode: 512}}},
		{Nodes: []api.Node{{Path: "a"}}, Files: []api.File{{Mode: -1}}},
	}
	stocks := [][][]byte{nil, sample.Contents("y"), sample.Contents("x", "z"), sample.Contents(strings.Repeat("y", api.MaxData+1)), make([][]byte, 65536),
		append(slices.Repeat([][]byte{make([]byte, api.MaxData)}, 8), []byte("y"))}
	met := map[api.Errno]bool{}
	for _, a := range trees {
		for _, b := range trees {
			for _, stock := range stocks {
				_, want := match.Match(a, b, stock)
				met[want] = true
				got, e := Acts(a, b, stock)
				is(t, "Acts", e, want)
				if e != api.OK {
					is(t, "how many beside the error", len(got), 0)
				}
			}
		}
	}
	for _, e := range []api.Errno{api.OK, api.ErrBound, api.ErrTree, api.ErrLong, api.ErrMissing} {
		is(t, "met "+strconv.Itoa(int(e)), met[e], true)
	}
	for _, x := range []struct {
		s, t  api.Tree
		stock [][]byte
		want  api.Errno
	}{
		{trees[9], trees[4], stocks[3], api.ErrTree},
		{trees[4], trees[9], stocks[3], api.ErrBound},
		{good, trees[9], stocks[3], api.ErrTree},
		{good, missing, stocks[3], api.ErrLong},
		{good, good, stocks[3], api.ErrLong},
		{good, missing, nil, api.ErrMissing},
	} {
		_, e := Acts(x.s, x.t, x.stock)
		is(t, "the first error", e, x.want)
	}
}

// TestP1201Great: trees at their bounds.
func TestP1201Great(t *testing.T) {
	var a, b api.Tree
	var unlinks, writes, rmdirs, mkdirs, renames, links, chmods []api.Act
	for i := range api.MaxNodes {
		p, q := strconv.Itoa(1000+i), strconv.Itoa(2000+i)
		a.Nodes = append(a.Nodes, api.Node{Path: p, File: i})
		a.Files = append(a.Files, api.File{Mode: 1, Data: []byte(p)})
		b.Nodes = append(b.Nodes, api.Node{Path: q, File: i})
		b.Files = append(b.Files, api.File{Mode: 2, Data: []byte(p)})
		unlinks = append(unlinks, api.Act{Op: api.OpUnlink, Path: p})
		rmdirs = append(rmdirs, api.Act{Op: api.OpRmdir, Path: p})
		mkdirs = append(mkdirs, api.Act{Op: api.OpMkdir, Path: p})
		renames = append(renames, api.Act{Op: api.OpRename, Path: p, To: q})
		writes = append(writes, api.Act{Op: api.OpWrite, Path: q, Mode: 2, Ref: i})
		chmods = append(chmods, api.Act{Op: api.OpChmod, Path: q, Mode: 2})
		if i > 0 {
			links = append(links, api.Act{Op: api.OpLink, Path: "1000", To: p})
		}
	}
	var stock [][]byte
	for _, f := range b.Files {
		stock = append(stock, f.Data)
	}
	acts(t, "all files go", a, api.Tree{}, nil, unlinks)
	acts(t, "all files come", api.Tree{}, b, stock, writes)
	acts(t, "all files get other names and modes", a, b, nil, append(slices.Clone(renames), chmods...))
	dirs := sample.Flat(api.MaxNodes)
	acts(t, "all directories go", dirs, api.Tree{}, nil, rmdirs)
	acts(t, "all directories come", api.Tree{}, dirs, nil, mkdirs)
	acts(t, "files for directories", dirs, b, stock, append(slices.Clone(rmdirs), writes...))
	acts(t, "directories for files", a, dirs, stock, append(slices.Clone(unlinks), mkdirs...))
	one := api.Tree{Nodes: slices.Clone(a.Nodes), Files: a.Files[:1]}
	for i := range one.Nodes {
		one.Nodes[i].File = 0
	}
	acts(t, "one file gets all names", a, one, nil, append(slices.Clone(unlinks[1:]), links...))
	acts(t, "one file loses all names but one", one, api.Tree{Nodes: one.Nodes[:1], Files: one.Files}, nil, unlinks[1:])
}

// groups are the actions of each kind, by the chapter's numbers.
type groups [8][]api.Act

func (g *groups) tell(group int, act api.Act) { g[group] = append(g[group], act) }

// plain tells actions as the chapter's words do, without anything clever.
func plain(a, b api.Tree, stock [][]byte) ([]api.Act, api.Errno) {
	sources, e := match.Match(a, b, stock)
	if e != api.OK {
		return nil, e
	}
	var g groups
	g.dirs(a, b)
	anchors := make([]string, len(b.Files))
	links := map[string]int{}
	for _, n := range a.Nodes {
		if n.File >= 0 && !slices.Contains(sources, api.Source{Kind: api.Keep, File: n.File}) {
			g.tell(1, api.Act{Op: api.OpUnlink, Path: n.Path})
		}
	}
	for n, x := range sources {
		names := tree.Names(b, n)
		anchors[n] = names[0]
		more := names[1:]
		if x.Kind == api.Keep {
			anchors[n], more = g.names(tree.Names(a, x.File), names)
			if mode := b.Files[n].Mode; mode != a.Files[x.File].Mode {
				g.tell(7, api.Act{Op: api.OpChmod, Path: names[0], Mode: mode})
			}
		}
		for _, p := range more {
			links[p] = n
		}
	}
	for n, x := range sources {
		switch f := b.Files[n]; x.Kind {
		case api.New:
			g.tell(5, api.Act{Op: api.OpWrite, Path: anchors[n], Mode: f.Mode, Ref: x.Ref})
		case api.Copy:
			g.tell(5, api.Act{Op: api.OpCopy, Path: anchors[x.File], To: anchors[n], Mode: f.Mode})
		}
	}
	for p, n := range links {
		g.tell(6, api.Act{Op: api.OpLink, Path: anchors[n], To: p})
	}
	var list []api.Act
	for _, group := range g {
		slices.SortFunc(group, func(x, y api.Act) int { return strings.Compare(aim(x), aim(y)) })
		list = append(list, group...)
	}
	return list, api.OK
}

// dirs tells what is to be done to directories.
func (g *groups) dirs(a, b api.Tree) {
	for _, n := range a.Nodes {
		at := tree.Find(b, n.Path)
		switch {
		case n.File >= 0:
		case at < 0 || b.Nodes[at].File >= 0:
			g.tell(2, api.Act{Op: api.OpRmdir, Path: n.Path})
		case b.Nodes[at].Mode != n.Mode:
			g.tell(7, api.Act{Op: api.OpChmod, Path: n.Path, Mode: b.Nodes[at].Mode})
		}
	}
	for _, n := range b.Nodes {
		if at := tree.Find(a, n.Path); n.File < 0 && (at < 0 || a.Nodes[at].File >= 0) {
			g.tell(3, api.Act{Op: api.OpMkdir, Path: n.Path, Mode: n.Mode})
		}
	}
}

// names tells what is to be done to the names that a file had: the file's anchor, and which names it still lacks.
func (g *groups) names(had, has []string) (anchor string, lacks []string) {
	left := slices.DeleteFunc(slices.Clone(had), func(p string) bool { return slices.Contains(has, p) })
	come := slices.DeleteFunc(slices.Clone(has), func(p string) bool { return slices.Contains(had, p) })
	stay := slices.DeleteFunc(slices.Clone(has), func(p string) bool { return slices.Contains(come, p) })
	if len(stay) > 0 {
		anchor = stay[0]
	} else {
		anchor = come[0]
	}
	for len(left) > 0 && len(come) > 0 {
		g.tell(4, api.Act{Op: api.OpRename, Path: left[0], To: come[0]})
		left, come = left[1:], come[1:]
	}
	for _, p := range left {
		g.tell(1, api.Act{Op: api.OpUnlink, Path: p})
	}
	return anchor, come
}

// aim is the path by which an action stands in its group.
func aim(x api.Act) string {
	if x.To != "" {
		return x.To
	}
	return x.Path
}

// played is the tree that the actions make of a: one behind the other, but all renames at one time, and without asking for parents. Its files are a's, by their numbers, and new ones behind them.
func played(t *testing.T, a api.Tree, list []api.Act, stock [][]byte) api.Tree {
	t.Helper()
	files := slices.Clone(a.Files)
	nodes := map[string]api.Node{}
	for _, n := range a.Nodes {
		nodes[n.Path] = n
	}
	take := func(p string, file bool) api.Node {
		n, ok := nodes[p]
		if !ok || n.File >= 0 != file {
			t.Errorf("%v: %s is not there", list, p)
		}
		return n
	}
	put := func(n api.Node) {
		if _, ok := nodes[n.Path]; ok {
			t.Errorf("%v: %s is there", list, n.Path)
		}
		nodes[n.Path] = n
	}
	moved := map[string]api.Node{}
	for _, x := range list {
		if x.Op == api.OpRename {
			moved[x.To] = take(x.Path, true)
			delete(nodes, x.Path)
		}
	}
	for _, x := range list {
		switch x.Op {
		case api.OpUnlink, api.OpRmdir:
			take(x.Path, x.Op == api.OpUnlink)
			delete(nodes, x.Path)
		case api.OpMkdir:
			put(api.Node{Path: x.Path, File: -1, Mode: x.Mode})
		case api.OpRename:
			put(api.Node{Path: x.To, File: moved[x.To].File})
		case api.OpWrite:
			put(api.Node{Path: x.Path, File: len(files)})
			files = append(files, api.File{Mode: x.Mode, Data: stock[x.Ref]})
		case api.OpCopy:
			put(api.Node{Path: x.To, File: len(files)})
			files = append(files, api.File{Mode: x.Mode, Data: files[take(x.Path, true).File].Data})
		case api.OpLink:
			put(api.Node{Path: x.To, File: take(x.Path, true).File})
		case api.OpChmod:
			if n := nodes[x.Path]; n.File >= 0 {
				files[take(x.Path, true).File].Mode = x.Mode
			} else {
				n.Mode = x.Mode
				nodes[x.Path] = n
			}
		}
	}
	got := api.Tree{Files: files}
	for _, n := range nodes {
		got.Nodes = append(got.Nodes, n)
	}
	slices.SortFunc(got.Nodes, func(x, y api.Node) int { return strings.Compare(x.Path, y.Path) })
	return got
}

// same are the paths of what is the same in both trees: directories with one mode, names of files with the same names, mode and bytes.
func same(a, b api.Tree) map[string]bool {
	is := map[string]bool{}
	for _, n := range a.Nodes {
		at := tree.Find(b, n.Path)
		if at < 0 {
			continue
		}
		m := b.Nodes[at]
		if n.File < 0 || m.File < 0 {
			is[n.Path] = n == m
			continue
		}
		f, g := a.Files[n.File], b.Files[m.File]
		is[n.Path] = f.Mode == g.Mode && bytes.Equal(f.Data, g.Data) && slices.Equal(tree.Names(a, n.File), tree.Names(b, m.File))
	}
	return is
}

// sound holds Acts against plain, and against what follows by P1202.
func sound(t *testing.T, a, b api.Tree, stock [][]byte) {
	t.Helper()
	got, e := Acts(a, b, stock)
	want, f := plain(a, b, stock)
	if e != f || !slices.Equal(got, want) {
		t.Fatalf("%v to %v with %q: %v, %v, want %v, %v", a, b, stock, got, e, want, f)
	}
	if e != api.OK {
		return
	}
	is(t, "no actions", len(got) == 0, tree.Same(a, b))
	made := played(t, a, got, stock)
	c, e := tree.Canon(made)
	is(t, "what is made", e == api.OK && tree.Same(c, b), true)
	var written []string
	stays := same(a, b)
	for _, x := range got {
		if x.Op == api.OpWrite {
			written = append(written, string(stock[x.Ref]))
		}
		is(t, "what is the same is made: "+aim(x), stays[aim(x)], false)
		is(t, "what is the same is named: "+x.Path, stays[x.Path] && x.Op != api.OpLink && x.Op != api.OpCopy, false)
	}
	fresh, _ := match.Fresh(a, b)
	if !slices.EqualFunc(written, fresh, func(w string, f []byte) bool { return w == string(f) }) {
		t.Errorf("written %q, fresh %q", written, fresh)
	}
	sources, _ := match.Match(a, b, stock)
	for n, x := range sources {
		for _, p := range tree.Names(b, n) {
			at := slices.IndexFunc(made.Nodes, func(n api.Node) bool { return n.Path == p })
			if x.Kind == api.Keep && (at < 0 || made.Nodes[at].File != x.File) {
				t.Errorf("%s is not of the file that is kept", p)
			}
		}
	}
	if t.Failed() {
		t.Fatalf("%v to %v with %q: %v", a, b, stock, got)
	}
}

func TestP1202All(t *testing.T) {
	list := sample.Small()
	for _, a := range list {
		for _, b := range list {
			sound(t, a, b, sample.Contents("y", "", "y", "x"))
		}
	}
	for i, a := range list {
		sound(t, a, list[len(list)-1-i], sample.Contents("x"))
	}
}

// changed is a tree with some of its modes and contents turned, and some of its files' names handed round.
func changed(t *testing.T, r *rand.Rand, a api.Tree) api.Tree {
	t.Helper()
	b := tree.Clone(a)
	for range r.Intn(4) {
		i := r.Intn(len(b.Nodes) + 1)
		j := r.Intn(len(b.Nodes) + 1)
		if i == len(b.Nodes) || j == len(b.Nodes) {
			continue
		}
		m, n := &b.Nodes[i], &b.Nodes[j]
		switch {
		case m.File < 0:
			m.Mode = r.Intn(2)
		case n.File >= 0:
			m.File, n.File = n.File, m.File
		default:
			b.Files[m.File] = api.File{Mode: r.Intn(2), Data: []byte("z")[:r.Intn(2)]}
		}
	}
	c, e := tree.Canon(b)
	is(t, "Canon", e, api.OK)
	return c
}

func TestP1202Chance(t *testing.T) {
	r := rand.New(rand.NewSource(12))
	for range 4000 {
		a, b := sample.Chance(t, r), sample.Chance(t, r)
		stock := sample.Contents("yy", "", "x", "y", "x", "xx", "z", "yy")
		r.Shuffle(len(stock), func(i, j int) { stock[i], stock[j] = stock[j], stock[i] })
		sound(t, a, b, stock)
		sound(t, a, b, stock[:r.Intn(len(stock)+1)])
		sound(t, a, changed(t, r, a), stock)
		sound(t, changed(t, r, b), b, stock)
		sound(t, a, a, nil)
	}
}

// whole is all that stands in a tree's lists, and in those of a stock, spare room too.
func whole(x api.Tree, stock [][]byte) (api.Tree, [][]byte) {
	list := slices.Clone(stock[:cap(stock)])
	for i, b := range list {
		list[i] = bytes.Clone(b[:cap(b)])
	}
	return sample.Whole(x), list
}

// TestP1203Stays: what is handed in stays, also where what was answered is turned; what was answered stays where what was handed in is turned.
func TestP1203Stays(t *testing.T) {
	r := rand.New(rand.NewSource(13))
	for range 300 {
		a, b := sample.Roomy(sample.Chance(t, r)), sample.Roomy(sample.Chance(t, r))
		stock := append(make([][]byte, 0, 8), sample.Room([]byte("yy")), sample.Room([]byte("x")), sample.Room(nil), sample.Room([]byte("xx")), sample.Room([]byte("y")))
		wasA, wasStock := whole(a, stock)
		wasB, _ := whole(b, stock)
		list, e := Acts(a, b, stock)
		is(t, "Acts", e, api.OK)
		told := slices.Clone(list)
		clear(list[:cap(list)])
		isA, isStock := whole(a, stock)
		isB, _ := whole(b, stock)
		if !reflect.DeepEqual(isA, wasA) || !reflect.DeepEqual(isB, wasB) || !reflect.DeepEqual(isStock, wasStock) {
			t.Fatalf("%v to %v with %q, was %v to %v with %q", isA, isB, isStock, wasA, wasB, wasStock)
		}
		list, _ = Acts(a, b, stock)
		is(t, "told anew", slices.Equal(list, told), true)
		for _, x := range []api.Tree{a, b} {
			for _, f := range x.Files {
				clear(f.Data[:cap(f.Data)])
			}
			clear(x.Nodes)
			clear(x.Files)
		}
		clear(stock)
		is(t, "what was told", slices.Equal(list, told), true)
	}
}

// TestJoined: calls at one time hinder one another in nothing, and leave no goroutine behind.
func TestJoined(t *testing.T) {
	a, b := sample.Tree(t, "a/:1 b=v c>b d/ d/e=u f=w:3 g/"), sample.Tree(t, "a/:2 b/:4 b/a=v:5 d=u g/ g/h=z:6 g/i>g/h i=z k>d m=u:8")
	stock := sample.Contents("y", "z")
	want, e := Acts(a, b, stock)
	is(t, "Acts", e, api.OK)
	before := runtime.NumGoroutine()
	var calls sync.WaitGroup
	for range 8 {
		calls.Go(func() {
			for range 200 {
				if got, e := Acts(a, b, stock); e != api.OK || !slices.Equal(got, want) {
					t.Errorf("%v, %v, want %v", got, e, want)
				}
				if _, e := Acts(a, b, nil); e != api.ErrMissing {
					t.Errorf("%v, want %v", e, api.ErrMissing)
				}
			}
		})
	}
	calls.Wait()
	for range 1000 { // one that has handed on its last action may still be on its way out
		if runtime.NumGoroutine() <= before {
			return
		}
		time.Sleep(time.Millisecond)
	}
	t.Errorf("%d goroutines, before %d", runtime.NumGoroutine(), before)
}

func TestExamples(t *testing.T) {
	a, b := sample.Tree(t, "a=x d/ d/y=y"), sample.Tree(t, "a/:448 a/x=x:384 b=n c>b")
	acts(t, "the chapter's", a, b, sample.Contents("n"), sample.Acts(t, "unlink d/y; rmdir d; mkdir a 448; rename a a/x; write b 420 0; link b c; chmod a/x 384"))
	acts(t, "round", sample.Tree(t, "a=x b=y"), sample.Tree(t, "a=y b=x"), nil, sample.Acts(t, "rename b a; rename a b"))
	acts(t, "a directory's file takes its place", sample.Tree(t, "d/ d/x=x"), sample.Tree(t, "d=x"), nil, sample.Acts(t, "rmdir d; rename d/x d"))
	acts(t, "once", sample.Tree(t, "a=x"), sample.Tree(t, "a=x b=z c=z"), sample.Contents("z"), sample.Acts(t, "write b 420 0; copy b c 420"))
}
