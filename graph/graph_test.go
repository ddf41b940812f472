package graph_test

import (
	"fmt"
	"math/rand"
	"reflect"
	"slices"
	"strconv"
	"strings"
	"sync"
	"testing"

	"shunt/api"
	"shunt/diff"
	"shunt/graph"
	"shunt/model"
	"shunt/path"
	"shunt/sample"
	"shunt/tree"
)

// is holds what a call answered against what it should have.
func is[T comparable](t *testing.T, what string, got, want T) {
	t.Helper()
	if got != want {
		t.Errorf("%s: %v, want %v", what, got, want)
	}
}

// told wants Needs to tell these lists: "[[] [0 2]]".
func told(t *testing.T, what string, s api.Tree, list []api.Act, want string) {
	t.Helper()
	got, e := graph.Needs(s, list)
	if e != api.OK || fmt.Sprint(got) != want {
		t.Errorf("%s: %v, %v, want %s", what, got, e, want)
	}
}

// rows are trees, actions, and what these need.
type rows []struct{ s, acts, want string }

func (r rows) hold(t *testing.T) {
	t.Helper()
	for _, x := range r {
		told(t, x.s+" by "+x.acts, sample.Tree(t, x.s), sample.Acts(t, x.acts), x.want)
	}
}

// TestP1301Emptied: what fills a path needs the first one that empties it.
func TestP1301Emptied(t *testing.T) {
	rows{
		{"", "", "[]"},
		{"a=x", "unlink a", "[[]]"},
		// each kind that empties, each that fills
		{"a=x", "unlink a; mkdir a 1", "[[] [0]]"},
		{"a=x", "unlink a; write a 1 0", "[[] [0]]"},
		{"a=x b=x", "unlink a; rename b a", "[[] [0]]"},
		{"a=x b=x", "unlink a; link b a", "[[] [0]]"},
		{"a=x b=x", "unlink a; copy b a 1", "[[] [0]]"},
		{"a/", "rmdir a; mkdir a 1", "[[] [0]]"},
		{"a/", "rmdir a; write a 1 0", "[[] [0]]"},
		{"a/ b=x", "rmdir a; rename b a", "[[] [0]]"},
		{"a/ b=x", "rmdir a; link b a", "[[] [0]]"},
		{"a/ b=x", "rmdir a; copy b a 1", "[[] [0]]"},
		{"a=x", "rename a c; mkdir a 1", "[[] [0]]"},
		{"a=x", "rename a c; write a 1 0", "[[] [0]]"},
		{"a=x b=x", "rename a c; rename b a", "[[] [0]]"},
		{"a=x b=x", "rename a c; link b a", "[[] [0]]"},
		{"a=x b=x", "rename a c; copy b a 1", "[[] [0]]"},
		// wherever that stands, and the first one of several
		{"a=x", "write a 1 0; unlink a", "[[1] []]"},
		{"a=x", "mkdir b 1; write a 1 0; unlink b; unlink a; rename a c; rmdir a", "[[2] [3] [] [] [] []]"},
		{"a=x", "unlink b; rename a c; unlink a; write a 1 0; mkdir a 1", "[[] [] [] [1] [1]]"},
		// what neither fills nor empties
		{"a=x", "chmod a 1; unlink a; chmod a 2", "[[] [] []]"},
		{"a=x", "link a b; copy a c 1; unlink a", "[[] [] []]"},
		{"a=x", "write a 1 0; link a b; copy a c 1; chmod a 1", "[[] [0] [0] [0]]"},
		{"a=x", "unlink a; unlink a; rmdir a; rename a b", "[[] [] [] []]"},
		// another path, also one that is below, above or alike by its text
		{"a/ a/b=x", "unlink a/b; write a/c 1 0; write b 1 0; write a 1 0; write a-b 1 0; write ab 1 0", "[[] [] [] [] [] []]"},
		{"a=x b=x", "rename a b; rename b a", "[[1] [0]]"},
		{"a=x b=x c=x", "rename a b; rename b c; rename c a", "[[1] [2] [0]]"},
		{"a=x b=x", "rename a c; rename b a", "[[] [0]]"},
	}.hold(t)
}

// TestP1301Parents: what fills a path needs the first OpMkdir of its parent.
func TestP1301Parents(t *testing.T) {
	rows{
		{"", "mkdir a 1; mkdir a/b 1", "[[] [0]]"},
		{"", "mkdir a 1; write a/b 1 0", "[[] [0]]"},
		{"c=x", "mkdir a 1; rename c a/b", "[[] [0]]"},
		{"c=x", "mkdir a 1; link c a/b", "[[] [0]]"},
		{"c=x", "mkdir a 1; copy c a/b 1", "[[] [0]]"},
		// wherever that stands, and the first one of several
		{"", "mkdir a/b 1; mkdir a 1", "[[1] []]"},
		{"", "mkdir b 1; mkdir a/b 1; mkdir a 1; mkdir a 2; write a/c 1 0", "[[] [2] [] [] [2]]"},
		// no other directory: not the parent's parent, none that is alike by its text, none of what is in it
		{"a/", "mkdir a 1; write a/b/c 1 0", "[[] []]"},
		{"", "mkdir a 1; mkdir a/b 1; mkdir a/b/c 1; mkdir a/b/c/d 1; mkdir a/b/c/d/e 1; write a/b/c/d/e/f 1 0", "[[] [0] [1] [2] [3] [4]]"},
		{"", "mkdir a 1; write ab/c 1 0; write b/a 1 0; write a-b 1 0; write aa 1 0", "[[] [] [] [] []]"},
		{"", "mkdir a/b 1; write a/c 1 0; write a 1 0", "[[] [] []]"},
		// of the root there is none
		{"", "mkdir a 1; mkdir b 1; write c 1 0", "[[] [] []]"},
		// nothing but an OpMkdir: others fill the parent, too
		{"c=x", "write a 1 0; link c b; rename c d; copy c e 1; write a/x 1 0; write b/x 1 0; write d/x 1 0; write e/x 1 0", "[[] [] [] [] [] [] [] []]"},
		{"", "write a 1 0; mkdir a 1; write a/b 1 0", "[[] [] [1]]"},
		{"", "mkdir a 1; mkdir b 1; rename b/c a/c", "[[] [] [0]]"},
		// those that take away need no parent
		{"", "mkdir a 1; unlink a/b; rmdir a/c; chmod a/d 1; rename a/e b; link a/f c; copy a/g d 1", "[[] [] [] [] [] [] []]"},
		// both: what is emptied, and the parent
		{"a=x", "unlink a; mkdir a 1; write a/b 1 0; rmdir a/b", "[[] [0] [1 3] []]"},
		{"a=x", "rmdir a/b; mkdir a 1; write a/b 1 0", "[[] [] [0 1]]"},
		{"a=x", "mkdir a 1; rename a a/b", "[[1] [0]]"},
	}.hold(t)
}

// TestP1301Rmdirs: OpRmdir needs of each node in it the first one that empties it.
func TestP1301Rmdirs(t *testing.T) {
	rows{
		{"a/", "rmdir a", "[[]]"},
		{"a/ a/b=x", "rmdir a; unlink a/b", "[[1] []]"},
		{"a/ a/b=x", "rmdir a; rename a/b b", "[[1] []]"},
		{"a/ a/b/", "rmdir a; rmdir a/b", "[[1] []]"},
		{"a/ a/b=x a/c>a/b a/d/ a/e=y", "unlink a/e; rmdir a; rename a/b b; rmdir a/d; unlink a/c", "[[] [0 2 3 4] [] [] []]"},
		// the first one of several, wherever that stands
		{"a/ a/b=x", "unlink a/b; rename a/b b; rmdir a/b; rmdir a", "[[] [] [] [0]]"},
		{"a/ a/b=x a/c=x", "rmdir a; rename a/c b; unlink a/b; rename a/b c; unlink a/c", "[[1 2] [] [] [] []]"},
		// not what is below that, nor what only its text begins alike
		{"a/ a/b/ a/b/c=x ab=x a-b=x b=x", "rmdir a; unlink a/b/c; rmdir a/b; unlink ab; unlink a-b; unlink b", "[[2] [] [1] [] [] []]"},
		// s tells what is in it, the actions do not
		{"a/", "rmdir a; unlink a/b; rmdir a/c", "[[] [] []]"},
		{"a/ a/b=x", "rmdir a; write a/b 1 0; link a/b c; copy a/b d 1; chmod a/b 1", "[[] [] [1] [1] [1]]"},
		{"a/ a/b=x a/c=x", "rmdir a; unlink a/c", "[[1] []]"},
		{"", "rmdir a; unlink a/b", "[[] []]"},
		// nothing else that empties needs them
		{"a/ a/b=x", "unlink a; rename a c; unlink a/b", "[[] [] []]"},
		{"a/ a/b=x", "unlink a/b; mkdir a 1; chmod a 1; write a 1 0", "[[] [] [1] []]"},
		// another one that does it with the same one
		{"a/ a/b=x", "rmdir a; rmdir a; unlink a/b", "[[2] [2] []]"},
		// a file goes where its directory was
		{"d/ d/x=x", "rmdir d; rename d/x d", "[[1] [0]]"},
		{"d/ d/e/ d/e/x=x", "rmdir d; rmdir d/e; rename d/e/x d", "[[1] [2] [0]]"},
	}.hold(t)
}

// TestP1301Uses: what takes a file or a directory, and leaves it, needs the first one that fills its path.
func TestP1301Uses(t *testing.T) {
	rows{
		{"", "write a 1 0; link a b", "[[] [0]]"},
		{"", "write a 1 0; copy a b 1", "[[] [0]]"},
		{"", "write a 1 0; chmod a 1", "[[] [0]]"},
		{"", "mkdir a 1; chmod a 1", "[[] [0]]"},
		{"b=x", "rename b a; chmod a 1", "[[] [0]]"},
		{"b=x", "link b a; chmod a 1", "[[] [0]]"},
		{"b=x", "copy b a 1; chmod a 1", "[[] [0]]"},
		{"b=x", "rename b a; link a c; copy a d 1", "[[] [0] [0]]"},
		{"b=x", "link b a; link a c; copy a d 1", "[[] [0] [0]]"},
		{"b=x", "copy b a 1; link a c; copy a d 1", "[[] [0] [0]]"},
		// wherever that stands, and the first one of several
		{"", "chmod a 1; link a b; copy a c 1; write a 1 0", "[[3] [3] [3] []]"},
		{"b=x", "chmod a 1; link b a; chmod b 1; write a 1 0; rename b a; mkdir a 1; copy a c 1", "[[1] [] [] [] [] [] [1]]"},
		// not the path to which it goes, not its parent
		{"a=x", "write b 1 0; link a b; copy a b 1", "[[] [] []]"},
		{"a/ a/b=x", "mkdir a 1; chmod a/b 1; link a/b c; copy a/b d 1", "[[] [] [] []]"},
		// others do not need it
		{"", "write a 1 0; unlink a; rename a b; rmdir a; mkdir a 1; write a 2 0", "[[1] [] [] [] [1] [1]]"},
		// all that one needs, each once
		{"b=x", "unlink b; mkdir a 1; write c 1 0; link c a; copy c a/b 1; rename c a/c; link a a/d; link c b", "[[] [] [5] [2] [1 2] [1] [1] [0 2]]"},
		{"", "link a a/b; mkdir a 1", "[[1] []]"},
		{"a=x", "copy c a/b 1; unlink a/b; write c 1 0; mkdir a 1", "[[1 2 3] [] [] []]"},
		{"a=x", "mkdir a 1; unlink a/b; write c 1 0; copy c a/b 1", "[[] [] [] [0 1 2]]"},
	}.hold(t)
}

// TestP1301Own: none needs itself, nor, where it is the first one, another one instead.
func TestP1301Own(t *testing.T) {
	rows{
		{"a=x", "rename a a", "[[]]"},
		{"a=x", "link a a", "[[]]"},
		{"a=x", "copy a a 1", "[[]]"},
		{"a=x", "rename a a; unlink a; write a 1 0", "[[] [] [0]]"},
		{"a=x", "unlink a; rename a a", "[[] [0]]"},
		{"a=x", "rename a a; rename a a", "[[] [0]]"},
		{"a=x", "link a a; link a a; chmod a 1", "[[] [0] [0]]"},
		{"a=x", "copy a a 1; unlink a; copy a a 1", "[[1] [] [0 1]]"},
		{"a/ a/b=x", "rename a/b a/b; rmdir a", "[[] [0]]"},
	}.hold(t)
}

// TestP1301Fields: a To that is none of its Op's is not looked at; nor are other fields.
func TestP1301Fields(t *testing.T) {
	list := []api.Act{
		{Op: api.OpUnlink, Path: "a", To: "b", Mode: -1, Ref: -1},
		{Op: api.OpRmdir, Path: "c", To: "a", Ref: 7},
		{Op: api.OpMkdir, Path: "b", To: "a", Mode: 999},
		{Op: api.OpWrite, Path: "d", To: "b/a", Mode: -5, Ref: 1 << 40},
		{Op: api.OpChmod, Path: "d", To: "b", Mode: -7},
		{Op: api.OpLink, Path: "d", To: "e", Mode: 1000, Ref: -1},
		{Op: api.OpWrite, Path: "c/x", To: "c", Ref: 3},
		{Op: api.OpChmod, Path: "a", To: "a"},
	}
	told(t, "fields", sample.Tree(t, "a=x c/ c/x=x c/y=y"), list, "[[] [] [] [] [3] [3] [] []]")
}

// TestP1301Texts: what is no path is taken as a text, and hinders nothing.
func TestP1301Texts(t *testing.T) {
	s := sample.Tree(t, "a/ a/b=x c=x")
	texts := []string{"", "/", "a/", "/a", "a//b", "..", "A", "a/b/c/d/e/f/g", "\xff", "a\x00", strings.Repeat("x", 1000), "a", "a/b", "c"}
	var list []api.Act
	for op := api.OpMkdir; op <= api.OpChmod; op++ {
		for i, p := range texts {
			list = append(list, api.Act{Op: op, Path: p, To: texts[(i+op)%len(texts)]})
		}
	}
	got, e := graph.Needs(s, list)
	is(t, "Needs", e, api.OK)
	is(t, "how many", len(got), len(list))
	for i, x := range list {
		if path.Valid(x.Path) && (x.To == "" || path.Valid(x.To)) {
			continue
		}
		for _, at := range got[i] {
			is(t, "a place", at >= 0 && at < len(list) && at != i, true)
		}
	}
	told(t, "a file of a tree that has no such path", s, sample.Acts(t, "unlink c; write c 1 0; unlink A; write A 1 0; chmod A 2"), "[[] [0] [] [2] [3]]")
	// What is right stays so beside what is no path.
	got, _ = graph.Needs(s, append(sample.Acts(t, "unlink c; write c 1 0; rmdir a; unlink a/b; chmod c 1"), list[1:7]...))
	is(t, "beside what is no path", fmt.Sprint(got[:5]), "[[] [0] [3] [] [1]]")
}

// TestP1301Errors: the tree's error, then too many, then one that is none.
func TestP1301Errors(t *testing.T) {
	good := sample.Tree(t, "a=x b/")
	one := []api.File{{Data: []byte("x")}}
	trees := []api.Tree{good, {}, sample.Flat(api.MaxNodes), sample.Flat(api.MaxNodes + 1), sample.Flat(api.MaxLoose + 1),
		{Files: make([]api.File, api.MaxLoose+1)}, {Nodes: make([]api.Node, api.MaxNodes+1)},
		{Nodes: []api.Node{{Path: "a"}}, Files: []api.File{{Data: make([]byte, api.MaxData+1)}}},
		{Files: one}, {Nodes: []api.Node{{Path: "a"}}}, {Nodes: []api.Node{{Path: "a", File: -2}}, Files: one},
		{Nodes: []api.Node{{Path: "b"}, {Path: "a"}}, Files: one}, {Nodes: []api.Node{{Path: "a/b"}}, Files: one},
		{Nodes: []api.Node{{Path: ""}}, Files: one}, {Nodes: []api.Node{{Path: ".ts-0"}}, Files: one},
		{Nodes: []api.Node{{Path: "a", File: -1, Mode: 512}}}, {Nodes: []api.Node{{Path: "a"}}, Files: []api.File{{Mode: -1}}},
	}
	met := map[api.Errno]bool{}
	for _, s := range trees {
		for _, count := range []int{0, 1, api.MaxActs, api.MaxActs + 1} {
			for _, op := range []int{-1 << 63, -1, 0, api.OpMkdir, api.OpChmod, api.OpSync, api.OpSync + 1, 1<<63 - 1} {
				list := slices.Repeat([]api.Act{{Op: api.OpUnlink, Path: "a"}}, count)
				want := tree.Check(s)
				if want == api.OK && count > api.MaxActs {
					want = api.ErrLong
				}
				if count > 0 {
					list[count-1].Op = op
					if want == api.OK && (op < 1 || op > 8) {
						want = api.ErrOp
					}
				}
				got, e := graph.Needs(s, list)
				is(t, fmt.Sprintf("%d actions, at last %d", count, op), e, want)
				if e != api.OK {
					is(t, "how many beside the error", len(got), 0)
				} else {
					is(t, "how many", len(got), count)
				}
				met[e] = true
			}
		}
	}
	for _, e := range []api.Errno{api.OK, api.ErrBound, api.ErrTree, api.ErrLong, api.ErrOp} {
		is(t, fmt.Sprint("met ", e), met[e], true)
	}
	_, e := graph.Needs(good, []api.Act{{Op: api.OpSync}, {Op: api.OpUnlink, Path: "a"}})
	is(t, "the first one is none", e, api.ErrOp)
}

// TestP1301Ops: each Op of an action is one.
func TestP1301Ops(t *testing.T) {
	for op := -3; op < 20; op++ {
		want := api.ErrOp
		if op >= api.OpMkdir && op <= api.OpChmod {
			want = api.OK
		}
		_, e := graph.Needs(api.Tree{}, []api.Act{{Op: op, Path: "a", To: "b"}})
		is(t, strconv.Itoa(op), e, want)
	}
}

// TestP1301Great: as many actions, and as many nodes, as may be.
func TestP1301Great(t *testing.T) {
	s := sample.Flat(api.MaxNodes)
	for i := range s.Nodes[1:] {
		s.Nodes[1+i].Path = s.Nodes[0].Path + "/" + s.Nodes[1+i].Path
	}
	var list []api.Act
	want := make([][]int, api.MaxActs)
	for i := range api.MaxActs {
		list = append(list, api.Act{Op: api.OpRmdir, Path: s.Nodes[i%api.MaxNodes].Path})
		if i%api.MaxNodes == 0 {
			for n := range api.MaxNodes - 1 {
				want[i] = append(want[i], 1+n)
			}
		}
	}
	told(t, "all needed again and again", s, list, fmt.Sprint(want))
	slices.Reverse(list)
	slices.Reverse(want)
	for i := range want {
		for n := range want[i] {
			want[i][n] = n
		}
	}
	told(t, "the same the other way round", s, list, fmt.Sprint(want))
}

// plain tells by the chapter's words what an action needs, and looks through all actions for it.
func plain(s api.Tree, acts []api.Act) [][]int {
	emptied := func(p string) int {
		return slices.IndexFunc(acts, func(a api.Act) bool {
			return a.Path == p && (a.Op == api.OpUnlink || a.Op == api.OpRmdir || a.Op == api.OpRename)
		})
	}
	filled := func(p string) int {
		return slices.IndexFunc(acts, func(a api.Act) bool { return target(a) == p })
	}
	made := func(p string) int {
		return slices.IndexFunc(acts, func(a api.Act) bool { return a.Op == api.OpMkdir && a.Path == p })
	}
	var list [][]int
	for i, a := range acts {
		need := map[int]bool{}
		if p := target(a); p != "" {
			need[emptied(p)] = true
			need[made(path.Parent(p))] = true
		}
		switch a.Op {
		case api.OpRmdir:
			for _, p := range tree.Kids(s, a.Path) {
				need[emptied(p)] = true
			}
		case api.OpLink, api.OpCopy, api.OpChmod:
			need[filled(a.Path)] = true
		}
		var l []int
		for at := range acts {
			if need[at] && at != i {
				l = append(l, at)
			}
		}
		list = append(list, l)
	}
	return list
}

// target is the path that an action fills; nothing, if it fills none.
func target(a api.Act) string {
	switch a.Op {
	case api.OpMkdir, api.OpWrite:
		return a.Path
	case api.OpRename, api.OpLink, api.OpCopy:
		return a.To
	}
	return ""
}

// TestP1301Plain: actions of all kinds by chance.
func TestP1301Plain(t *testing.T) {
	r := rand.New(rand.NewSource(131))
	paths := []string{"a", "b", "a/a", "a/b", "b/a", "a/b/a", "c"}
	for range 3000 {
		s := sample.Chance(t, r)
		var list []api.Act
		for range r.Intn(12) {
			list = append(list, api.Act{Op: 1 + r.Intn(8), Path: paths[r.Intn(len(paths))], To: paths[r.Intn(len(paths))]})
		}
		for i := range list {
			if len(s.Nodes) > 0 && r.Intn(2) == 0 {
				list[i].Path = s.Nodes[r.Intn(len(s.Nodes))].Path
			}
		}
		told(t, fmt.Sprint(s.Nodes, " by ", list), s, list, fmt.Sprint(plain(s, list)))
	}
}

// done does the actions in an order that hangs on chance, each behind those that it needs, as far as that goes: none may be refused. It tells whether all were done; then b has to be there.
func done(t *testing.T, r *rand.Rand, a, b api.Tree, acts []api.Act, needs [][]int, stock [][]byte) bool {
	t.Helper()
	var list []api.Ins
	for _, at := range sample.Line(r, needs) {
		list = append(list, acts[at])
	}
	got, n, e := model.Run(a, list, stock)
	if e != api.OK {
		t.Fatalf("%v to %v by %v: %d is refused: %v", a, b, list, n, e)
	}
	all := len(list) == len(acts)
	if all && !tree.Same(got, b) {
		t.Fatalf("%v to %v by %v: %v", a, b, list, got)
	}
	return all
}

// sound holds Needs of what is to be done against plain, and against what follows by P1302. It tells whether all of that could be done.
func sound(t *testing.T, r *rand.Rand, a, b api.Tree, stock [][]byte) bool {
	t.Helper()
	acts, e := diff.Acts(a, b, stock)
	is(t, "Acts", e, api.OK)
	got, e := graph.Needs(a, acts)
	if want := fmt.Sprint(plain(a, acts)); e != api.OK || fmt.Sprint(got) != want {
		t.Fatalf("%v by %v: %v, %v, want %s", a, acts, got, e, want)
	}
	return done(t, r, a, b, acts, got, stock)
}

func TestP1302All(t *testing.T) {
	r := rand.New(rand.NewSource(132))
	list := sample.Small()
	stock := sample.Contents("x", "y")
	all, round := 0, 0
	for _, a := range list {
		for _, b := range list {
			if sound(t, r, a, b, stock) {
				all++
			} else {
				round++
			}
		}
	}
	is(t, "some go round, more do not", round > 500 && all > 5000, true)
}

func TestP1302Chance(t *testing.T) {
	r := rand.New(rand.NewSource(133))
	stock := sample.Contents("yy", "", "x", "y", "xx")
	all := 0
	for range 3000 {
		a, b := sample.Chance(t, r), sample.Chance(t, r)
		for range 3 {
			if sound(t, r, a, b, stock) {
				all++
			}
		}
		is(t, "nothing to be done", sound(t, r, a, a, nil), true)
	}
	is(t, "most can be done", all > 5000, true)
}

// TestP1302Great: trees at their bounds; on the way both stand beside one another.
func TestP1302Great(t *testing.T) {
	r := rand.New(rand.NewSource(134))
	deep := func(first string) api.Tree {
		var x api.Tree
		p := first
		for range api.MaxDepth - 2 {
			x.Nodes = append(x.Nodes, api.Node{Path: p, File: -1, Mode: 7})
			p += "/d"
		}
		x.Nodes = append(x.Nodes, api.Node{Path: p, File: -1, Mode: 7})
		for i := range api.MaxNodes - len(x.Nodes) {
			x.Nodes = append(x.Nodes, api.Node{Path: p + "/" + strconv.Itoa(1000+i), File: i})
			x.Files = append(x.Files, api.File{Mode: 5, Data: []byte(strconv.Itoa(i))})
		}
		return x
	}
	a, b := deep("a"), deep("b")
	is(t, "the trees", tree.Check(a)+tree.Check(b), api.OK)
	is(t, "renames", sound(t, r, a, b, nil), true)
	var stock [][]byte
	for i, f := range b.Files {
		b.Files[i].Data = append([]byte("new "), f.Data...)
		stock = append(stock, b.Files[i].Data)
	}
	is(t, "writes", sound(t, r, a, b, stock), true)
	is(t, "all goes", sound(t, r, a, api.Tree{}, nil), true)
	is(t, "all comes", sound(t, r, api.Tree{}, b, stock), true)
	turned := tree.Clone(a)
	for i := range turned.Files {
		turned.Files[i] = a.Files[(i+1)%len(a.Files)]
	}
	is(t, "all goes round", sound(t, r, a, turned, nil), false)
}

// whole is all that stands in a tree's lists, and in one of actions, spare room too.
func whole(x api.Tree, acts []api.Act) (api.Tree, []api.Act) {
	return sample.Whole(x), slices.Clone(acts[:cap(acts)])
}

// TestP1303Stays: what is handed in stays, also where what was answered is turned; what was answered stays where what was handed in is turned.
func TestP1303Stays(t *testing.T) {
	r := rand.New(rand.NewSource(135))
	stock := sample.Contents("yy", "", "x", "y", "xx")
	for range 300 {
		a, b := sample.Roomy(sample.Chance(t, r)), sample.Chance(t, r)
		acts, e := diff.Acts(a, b, stock)
		is(t, "Acts", e, api.OK)
		acts = append(acts, sample.Acts(t, "unlink spare; write zz 1 0")...)[:len(acts)]
		wasA, wasActs := whole(a, acts)
		list, e := graph.Needs(a, acts)
		is(t, "Needs", e, api.OK)
		was := fmt.Sprint(list)
		sample.Spoil(list)
		clear(list[:cap(list)])
		isA, isActs := whole(a, acts)
		if !reflect.DeepEqual(isA, wasA) || !slices.Equal(isActs, wasActs) {
			t.Fatalf("%v by %v, was %v by %v", isA, isActs, wasA, wasActs)
		}
		list, _ = graph.Needs(a, acts)
		is(t, "told anew", fmt.Sprint(list), was)
		for _, f := range a.Files {
			clear(f.Data[:cap(f.Data)])
		}
		clear(a.Nodes)
		clear(a.Files)
		clear(acts)
		is(t, "what was told", fmt.Sprint(list), was)
	}
}

// TestP1303Own: no two lists of an answer have memory together, two that are alike neither.
func TestP1303Own(t *testing.T) {
	s := sample.Tree(t, "a/ a/b=x a/c=x a/d=x")
	acts := sample.Acts(t, "rmdir a; rmdir a; unlink a/b; unlink a/c; unlink a/d; write a/b 1 0; write a/b 1 0; chmod a/b 1; chmod a/b 1")
	list, e := graph.Needs(s, acts)
	is(t, "Needs", e, api.OK)
	is(t, "what is told", fmt.Sprint(list), "[[2 3 4] [2 3 4] [] [] [] [2] [2] [5] [5]]")
	for i := range list {
		others, _ := graph.Needs(s, acts)
		sample.Spoil(others[i : i+1])
		for j := range others {
			if j != i {
				is(t, "another list", fmt.Sprint(others[j]), fmt.Sprint(list[j]))
			}
		}
		_ = append(others[i], 7, 7, 7)
		for j := range others {
			if j != i {
				is(t, "another list", fmt.Sprint(others[j]), fmt.Sprint(list[j]))
			}
		}
	}
}

// TestTogether: calls at one time hinder one another in nothing.
func TestTogether(t *testing.T) {
	s := sample.Tree(t, "a=x d/ d/y=y")
	acts := sample.Acts(t, "unlink d/y; rmdir d; mkdir a 448; rename a a/x; write b 420 0; link b c; chmod a/x 384")
	var calls sync.WaitGroup
	for range 8 {
		calls.Go(func() {
			for range 200 {
				if got, e := graph.Needs(s, acts); e != api.OK || fmt.Sprint(got) != "[[] [0] [3] [2] [] [4] [3]]" {
					t.Errorf("%v, %v", got, e)
				}
			}
		})
	}
	calls.Wait()
}

func TestExamples(t *testing.T) {
	a, b := sample.Tree(t, "a=x d/ d/y=y"), sample.Tree(t, "a/:448 a/x=x:384 b=n c>b")
	acts, e := diff.Acts(a, b, sample.Contents("n"))
	is(t, "Acts", e, api.OK)
	told(t, "the chapter's", a, acts, "[[] [0] [3] [2] [] [4] [3]]")
	rows{
		{"a=x b=y", "rename b a; rename a b", "[[1] [0]]"},
		{"d/ d/x=x", "rmdir d; rename d/x d", "[[1] [0]]"},
		{"a=x", "write b 420 0; copy b c 420", "[[] [0]]"},
	}.hold(t)
}
