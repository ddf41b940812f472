package order_test

import (
	"bytes"
	"fmt"
	"math/rand"
	"reflect"
	"slices"
	"strconv"
	"strings"
	"sync"
	"testing"

	"shunt/api"
	"shunt/comp"
	"shunt/cut"
	"shunt/diff"
	"shunt/graph"
	"shunt/match"
	"shunt/model"
	"shunt/order"
	"shunt/sample"
	"shunt/toll"
	"shunt/tree"
)

// is holds what a call answered against what it should have.
func is[T comparable](t *testing.T, what string, got, want T) {
	t.Helper()
	if got != want {
		t.Errorf("%s: %v, want %v", what, got, want)
	}
}

// told wants Order to tell these numbers.
func told(t *testing.T, what string, s api.Tree, acts []api.Act, needs [][]int, stock [][]byte, thrifty bool, want []int) {
	t.Helper()
	got, e := order.Order(s, acts, needs, stock, thrifty)
	is(t, what+", thrifty "+strconv.FormatBool(thrifty), fmt.Sprint(got, e), fmt.Sprint(want, api.OK))
}

// refused wants this error, thrifty or not, and nothing beside it.
func refused(t *testing.T, what string, s api.Tree, acts []api.Act, needs [][]int, want api.Errno) {
	t.Helper()
	for _, thrifty := range []bool{false, true} {
		got, e := order.Order(s, acts, needs, nil, thrifty)
		if e != want || len(got) > 0 {
			t.Errorf("%s, thrifty %v: %v, %v, want %v", what, thrifty, got, e, want)
		}
	}
}

// blank is so many bytes.
func blank(size int) []byte { return bytes.Repeat([]byte{'n'}, size) }

// sized is a tree by words, in which a file's bytes are told by how many they are: "a=5000".
func sized(t *testing.T, words string) api.Tree {
	t.Helper()
	x := sample.Tree(t, words)
	for i, f := range x.Files {
		size, err := strconv.Atoi(string(f.Data))
		is(t, "how many bytes", err, nil)
		x.Files[i].Data = blank(size)
	}
	return x
}

// full is the directory d with so many names of a file without bytes, and that file's name a.
func full(t *testing.T, count int) api.Tree {
	t.Helper()
	words := "a=0 d/ e/"
	for i := range count {
		words += fmt.Sprintf(" d/%02d>a", i)
	}
	return sized(t, words)
}

// row is actions on a tree, contents of so many bytes being at hand, what they need, and the order thrifty.
type row struct {
	s     api.Tree
	stock []int
	acts  string
	needs string
	want  string
}

func hold(t *testing.T, rows []row) {
	t.Helper()
	for _, x := range rows {
		acts := sample.Acts(t, x.acts)
		needs := make([][]int, len(acts))
		if x.needs != "" {
			needs = sample.Lists(t, x.needs)
		}
		var stock [][]byte
		for _, size := range x.stock {
			stock = append(stock, blank(size))
		}
		told(t, x.acts, x.s, acts, needs, stock, true, sample.Lists(t, x.want)[0])
	}
}

// ring is so many lists, each of which needs the next one, and the last one the first.
func ring(count int) [][]int {
	needs := make([][]int, count)
	for i := range needs {
		needs[i] = []int{(i + 1) % count}
	}
	return needs
}

// wrong are trees that are not loose, by the error that tells it.
func wrong(t *testing.T) map[api.Errno][]api.Tree {
	a := sample.Tree(t, "a/ a/b=x c=y")
	behind, lost, mode, unnamed := tree.Clone(a), tree.Clone(a), tree.Clone(a), tree.Clone(a)
	slices.Reverse(behind.Nodes)
	lost.Nodes = lost.Nodes[1:]
	mode.Nodes[0].Mode = 512
	unnamed.Nodes = unnamed.Nodes[:2]
	long, files := tree.Clone(a), tree.Clone(a)
	long.Files[1].Data = blank(api.MaxData + 1)
	files.Files = make([]api.File, api.MaxLoose+1)
	return map[api.Errno][]api.Tree{
		api.ErrTree:  {behind, lost, mode, unnamed},
		api.ErrBound: {long, files, sample.Flat(api.MaxLoose + 1)},
	}
}

// TestP1601Errors: each error, and which is told ahead of which.
func TestP1601Errors(t *testing.T) {
	const most = api.MaxActs
	a := sample.Tree(t, "a/ a/b=x c=y")
	acts := make([]api.Act, 3)
	long := [][]int{{9}, slices.Repeat([]int{0}, most+1), nil}
	for e, trees := range wrong(t) {
		for _, x := range trees {
			for _, needs := range [][][]int{nil, {nil, nil, nil}, long, {{7}}, {nil}, ring(3), ring(most + 1)} {
				refused(t, "a tree that is not loose", x, acts, needs, e)
			}
			refused(t, "a tree that is not loose, no actions", x, nil, nil, e)
		}
	}
	for _, count := range []int{0, 1, 3, most, most + 1} {
		acts := make([]api.Act, count)
		refused(t, "too many lists", a, acts, make([][]int, most+1), api.ErrLong)
		refused(t, "too many lists that go round", a, acts, ring(most+1), api.ErrLong)
		refused(t, "too long a list", a, acts, long, api.ErrLong)
		refused(t, "no place", a, acts, [][]int{nil, {0, 3}, nil}, api.ErrArg)
		refused(t, "no place", a, acts, [][]int{nil, {-1}, nil}, api.ErrArg)
		refused(t, "no place, going round", a, acts, [][]int{{1}, {0}, {3}}, api.ErrArg)
		refused(t, "not as many lists", a, acts, make([][]int, 2), api.ErrArg)
		refused(t, "not as many lists, going round", a, acts, ring(2), api.ErrArg)
	}
	refused(t, "no lists", a, acts, nil, api.ErrArg)
	refused(t, "far too many actions", a, make([]api.Act, 5*most), make([][]int, 5), api.ErrArg)
	for _, needs := range []string{"0,-,-", "-,-,2", "1,0,-", "1,2,0", "2,-,0", "1,1,0", "1,2,1", "1 2,2,2"} {
		refused(t, "going round", a, acts, sample.Lists(t, needs), api.ErrCycle)
	}
	refused(t, "all go round", a, make([]api.Act, most), ring(most), api.ErrCycle)
	needs := make([][]int, most)
	needs[most-1] = []int{5, 6, most - 1}
	refused(t, "the last one needs itself", a, make([]api.Act, most), needs, api.ErrCycle)
}

// TestP1601Least: the least number of those that are ready; what the actions are is nothing to it.
func TestP1601Least(t *testing.T) {
	for _, x := range []struct{ needs, want string }{
		{"-", "0"},
		{"-,-,-,-", "0 1 2 3"},
		{"1,-", "1 0"},
		{"1,2,3,-", "3 2 1 0"},
		{"3,-,-,-", "1 2 3 0"},
		{"-,3,-,-", "0 2 3 1"},
		// what is let go is less than what waits
		{"2,-,-,-", "1 2 0 3"},
		{"4,-,1,-,2", "1 2 3 4 0"},
		{"4,-,1,-,1", "1 2 3 4 0"},
		{"1 4,-,1,-,1", "1 2 3 4 0"},
		{"2 3,3,3,-,-", "3 1 2 0 4"},
		// it waits for all that it needs
		{"1 2 3,-,-,-", "1 2 3 0"},
		{"3 2 1,3,1,-", "3 1 2 0"},
		{"-,0 2,3,0,1 2", "0 3 2 1 4"},
		// more than once
		{"1 1 1,-,0 0", "1 0 2"},
		{"3 1 3 1 3,3 3,-,-", "2 3 1 0"},
	} {
		needs, want := sample.Lists(t, x.needs), sample.Lists(t, x.want)[0]
		a := sized(t, "a=5000 b=0")
		for _, act := range sample.Acts(t, "unlink a; mkdir c 1; rmdir x; chmod a 1") {
			told(t, x.needs, a, slices.Repeat([]api.Act{act}, len(needs)), needs, nil, false, want)
		}
		acts := sample.Acts(t, "mkdir c 1; write d 1 0; unlink b; rmdir b; unlink a")[:len(needs)]
		told(t, x.needs, a, acts, needs, nil, false, want)
		// where the tree never grows, the least number is it thrifty, too
		told(t, x.needs, a, make([]api.Act, len(needs)), needs, nil, true, want)
	}
	for _, thrifty := range []bool{false, true} {
		told(t, "none", api.Tree{}, nil, nil, nil, thrifty, nil)
		told(t, "none", api.Tree{}, []api.Act{}, [][]int{}, [][]byte{}, thrifty, nil)
	}
}

// TestP1601Kept: a tree that is loose, but not right.
func TestP1601Kept(t *testing.T) {
	s := api.Tree{Nodes: []api.Node{{Path: ".ts", File: -1}, {Path: ".ts-0", File: 0}}, Files: []api.File{{Data: blank(600)}}}
	acts := sample.Acts(t, "mkdir a 1; rename .ts-0 .ts/x; unlink .ts-0")
	told(t, "kept names", s, acts, make([][]int, 3), nil, false, []int{0, 1, 2})
	told(t, "kept names", s, acts, make([][]int, 3), nil, true, []int{2, 1, 0})
}

// TestP1601Growth: blocks first, then inodes, then the number.
func TestP1601Growth(t *testing.T) {
	hold(t, []row{
		{sized(t, "a=600 b=0"), nil, "unlink b; unlink a", "", "1 0"},
		{sized(t, "a=600 b=512"), nil, "unlink b; unlink a", "", "1 0"},
		{sized(t, "a=600 b=601"), nil, "unlink b; unlink a", "", "0 1"},
		{sized(t, "a=600 b=0"), nil, "chmod a 1; unlink b", "", "1 0"},
		{sized(t, "a=1 d/ e/"), nil, "chmod a 1; rmdir e; unlink a; rmdir d", "", "1 2 3 0"},
		{sized(t, ""), []int{0}, "mkdir x 1; write y 1 0", "", "1 0"},
		{sized(t, ""), []int{512}, "write x 1 0; mkdir y 1", "", "0 1"},
		{sized(t, ""), []int{513}, "write x 1 0; mkdir y 1", "", "1 0"},
		{sized(t, ""), []int{600, 0, 5000, 512}, "write a 1 2; write b 1 0; write c 1 3; write d 1 1", "", "3 2 1 0"},
		{sized(t, "a=0"), []int{0}, "write x 1 0; copy a y 1; link a z; rename a b", "1,-,-,1", "2 1 3 0"},
		// a file of more blocks than stand in its inode has one more
		{sized(t, "f=4608"), []int{4096}, "copy f x 1; write y 1 0", "", "1 0"},
		{sized(t, "f=4608"), []int{4097}, "copy f x 1; write y 1 0", "", "0 1"},
		{sized(t, "f=4608"), []int{4097}, "write y 1 0; copy f x 1", "", "0 1"},
		{sized(t, "f=4608"), []int{4609}, "write y 1 0; copy f x 1", "", "1 0"},
		{sized(t, "f=8192"), []int{8192}, "write y 1 0; copy f x 1; unlink f", "", "2 1 0"},
	})
}

// TestP1601Dirs: a directory, and the root, take a block more with each 16 names more.
func TestP1601Dirs(t *testing.T) {
	hold(t, []row{
		{full(t, 15), nil, "link a d/x; link a e/x", "", "0 1"},
		{full(t, 16), nil, "link a d/x; link a e/x", "", "1 0"},
		{full(t, 17), nil, "link a d/x; link a e/x", "", "0 1"},
		{full(t, 16), nil, "rename a d/x; rename a e/x", "", "1 0"},
		{full(t, 16), nil, "rename d/00 e/x; unlink d/00", "", "0 1"},
		{full(t, 17), nil, "link a e/x; rename d/00 e/y", "", "1 0"},
		{full(t, 17), nil, "rename d/00 e/y; unlink d/01", "", "0 1"},
		{full(t, 17), nil, "rename d/00 d/x; unlink d/01", "", "1 0"},
		// the name that comes takes the room of one that went
		{full(t, 17), nil, "link a d/x; unlink d/00; unlink d/01; mkdir e/x 1; link a d/y; link a d/z", "", "1 2 0 4 5 3"},
		{full(t, 16), nil, "link a d/x; unlink d/00; link a d/y", "", "1 0 2"},
		{full(t, 15), nil, "link a d/x; mkdir d/y 1; unlink d/00", "", "0 2 1"},
	})
	// a, d, e and 13 names more are in the root
	words := "a=0 d/ e/"
	for i := range 13 {
		words += " " + strconv.Itoa(10+i) + ">a"
	}
	hold(t, []row{
		{sized(t, words), nil, "link a d/x; link a x", "", "0 1"},
		{sized(t, words), nil, "link a x; link a d/x", "", "1 0"},
		{sized(t, words), nil, "link a x; rename a b", "", "1 0"},
		{sized(t, words+" 99>a"), nil, "link a d/x; link a x; rename a e/x; unlink 99", "", "2 0 1 3"},
	})
}

// TestP1601Links: a file goes with its last name.
func TestP1601Links(t *testing.T) {
	hold(t, []row{
		{sized(t, "a=5000 b>a c=600"), nil, "unlink a; unlink c", "", "1 0"},
		{sized(t, "a=5000 b>a c=600"), nil, "unlink a; unlink b; unlink c", "", "2 0 1"},
		{sized(t, "a=5000 b>a c=600"), nil, "unlink b; chmod c 1; unlink a", "", "0 2 1"},
		{sized(t, "a=5000 b=1"), nil, "link a c; unlink a; chmod b 1; unlink c", "", "1 0 2 3"},
		{sized(t, "a=5000 b=1"), nil, "link a c; unlink a; unlink b; unlink c", "-,0,-,0", "2 0 1 3"},
		{sized(t, "a=5000 b=1"), nil, "rename a c; unlink a; chmod b 1; unlink c", "-,0,-,0", "0 3 1 2"},
		{sized(t, "a=5000 b=1"), nil, "copy a c 1; unlink a; unlink c; mkdir x 1; unlink b", "-,0,0,-,-", "4 3 0 1 2"},
	})
}

// TestP1601Needs: only what is ready is tried.
func TestP1601Needs(t *testing.T) {
	hold(t, []row{
		{sized(t, "a=5000"), []int{600}, "unlink a; mkdir b 1; write c 1 0", "2,-,-", "1 2 0"},
		{sized(t, "a=5000"), []int{600}, "unlink a; mkdir b 1; write c 1 0", "1,-,-", "1 0 2"},
		{sized(t, "a=5000"), []int{600}, "unlink a; mkdir b 1; write c 1 0", "1 2,-,-", "1 2 0"},
		{sized(t, "a=5000"), []int{600}, "unlink a; mkdir b 1; write c 1 0", "2 2 1 1,2,-", "2 1 0"},
		{sized(t, "a=1 b=600 c=5000"), nil, "unlink a; unlink b; unlink c", "-,0,1", "0 1 2"},
		{sized(t, "a=1 b=600 c=5000"), nil, "unlink a; unlink b; unlink c", "-,0,0", "0 2 1"},
		{sized(t, "a=1 b=600 c=5000"), nil, "unlink a; unlink b; unlink c", "", "2 1 0"},
	})
}

// TestP1601Refused: what the tree refuses counts 0, and changes nothing, but it is done with.
func TestP1601Refused(t *testing.T) {
	hold(t, []row{
		{sized(t, "d/ d/x=0"), nil, "mkdir y 1; rmdir d", "", "1 0"},
		{sized(t, "d/ d/x=0"), nil, "rmdir d; chmod d/x 1; unlink d/x", "", "2 0 1"},
		{sized(t, "a=600"), []int{0}, "write a 1 0; unlink a", "", "1 0"},
		{sized(t, "a=600"), []int{600}, "write a 1 0; unlink a; mkdir b 1", "", "1 2 0"},
		{sized(t, "a=600"), []int{600}, "mkdir b 1; write a 1 0; rmdir b", "", "1 2 0"},
		{sized(t, "a=600 b=5000"), nil, "mkdir c 1; rename a b; unlink a; chmod a 1", "", "2 1 3 0"},
		{sized(t, "a=600"), nil, "mkdir b 1; mkdir b/c 1; link a b/c; mkdir b/c/d 1", "", "1 2 3 0"},
		{sized(t, "a=600"), nil, "mkdir b 1; mkdir b/c 1; link a b/c; link a b/d", "-,0,0,0", "0 2 1 3"},
		{sized(t, "a/ a/b=600"), nil, "mkdir b 1; mkdir a/b/c 1; link a c; copy a/b a 1; rename a/b a/b; unlink a; rmdir a/b", "", "1 2 3 4 5 6 0"},
		// fields
		{sized(t, "a=1"), []int{600, 8193, 8192}, "mkdir z 1; write b 1 3; write c 1 -1; write d 1 1; write e 1 2; write f 1 0", "", "1 2 3 0 5 4"},
		{sized(t, "a=1"), []int{600}, "mkdir z 1; mkdir b 512; write c -1 0; copy a d 512; chmod a 512; mkdir e 511", "", "1 2 3 4 0 5"},
		{sized(t, "a=1"), nil, "mkdir z 1; mkdir A 1; mkdir .. 1; mkdir b/ 1; copy a B 1; copy A b 1; mkdir 123456789012345 1", "", "1 2 3 4 5 6 0"},
	})
	acts := sample.Acts(t, "mkdir z 1; mkdir z 1; copy a b 1; write z 1 0; unlink a; mkdir y 1")
	acts[0].Path, acts[2].To, acts[3].Path, acts[4].Path = "", "", "", ""
	told(t, "the root", sized(t, "a=1"), acts, make([][]int, 6), [][]byte{blank(1)}, true, []int{0, 2, 3, 4, 1, 5})
	for _, op := range []int{-1 << 63, -3, -1, 0, api.OpSync, api.OpSync + 1, 259, 1<<32 + api.OpUnlink, 1<<63 - 1} {
		acts := []api.Act{{Op: api.OpMkdir, Path: "b"}, {Op: op, Path: "a", To: "c"}, {Op: api.OpUnlink, Path: "a"}}
		told(t, "no action", sized(t, "a=1"), acts, make([][]int, 3), nil, true, []int{2, 1, 0})
		told(t, "no action", sized(t, "a=1"), acts, make([][]int, 3), nil, false, []int{0, 1, 2})
	}
}

// TestP1601Bound: a tree of as many nodes as there may be refuses one more.
func TestP1601Bound(t *testing.T) {
	for _, adds := range sample.Acts(t, "mkdir x 1; write x 1 0; link f x; copy f x 1") {
		for _, count := range []int{api.MaxLoose - 2, api.MaxLoose - 1} {
			s := sample.Flat(count)
			s.Nodes = append(s.Nodes, api.Node{Path: "f"})
			s.Files = []api.File{{Data: blank(600)}}
			is(t, "a loose tree", tree.Loose(s), api.OK)
			acts := []api.Act{adds, {Op: api.OpChmod, Path: "f"}, {Op: api.OpRename, Path: "f", To: "1000/f"}}
			want := []int{1, 2, 0}
			if count == api.MaxLoose-1 || adds.Op == api.OpLink {
				want = []int{0, 1, 2}
			}
			told(t, "a full tree", s, acts, make([][]int, 3), [][]byte{blank(600)}, true, want)
			// there is room by then
			acts[1] = api.Act{Op: api.OpRmdir, Path: "1001"}
			told(t, "a full tree, and one that goes", s, acts, [][]int{nil, nil, {0}}, [][]byte{blank(600)}, true, []int{1, 0, 2})
		}
	}
}

// grow tells by how much a tree grows by an action, and what it is then, as the chapter says it.
func grow(t *testing.T, x api.Tree, act api.Act, stock [][]byte) (complex128, api.Tree) {
	t.Helper()
	made, e := model.Do(x, act, stock)
	if e != api.OK {
		return 0, x
	}
	was, e1 := tree.Weight(x)
	then, e2 := tree.Weight(made)
	growth, e3 := toll.Sub(then, was)
	is(t, "a growth", [3]api.Errno{e1, e2, e3}, [3]api.Errno{})
	return growth, made
}

// plain puts actions in order by the chapter's words.
func plain(t *testing.T, s api.Tree, acts []api.Act, needs [][]int, stock [][]byte, thrifty bool) []int {
	t.Helper()
	var list []int
	waits := func(n int) bool { return !slices.Contains(list, n) }
	for len(list) < len(acts) {
		best, least, then := -1, complex128(0), s
		for n := range acts {
			if !waits(n) || slices.ContainsFunc(needs[n], waits) {
				continue
			}
			if !thrifty {
				best = n
				break
			}
			growth, made := grow(t, s, acts[n], stock)
			less, e := toll.Less(growth, least)
			is(t, "Less", e, api.OK)
			if best < 0 || less {
				best, least, then = n, growth, made
			}
		}
		list, s = append(list, best), then
	}
	return list
}

// agrees holds Order, thrifty and not, against plain, and tells both orders.
func agrees(t *testing.T, s api.Tree, acts []api.Act, needs [][]int, stock [][]byte) (least, leanest []int) {
	t.Helper()
	for thrifty, list := range map[bool]*[]int{false: &least, true: &leanest} {
		got, e := order.Order(s, acts, needs, stock, thrifty)
		want := plain(t, s, acts, needs, stock, thrifty)
		if e != api.OK || !slices.Equal(got, want) {
			t.Fatalf("%v by %v on %v, thrifty %v: %v, %v, want %v", acts, needs, s.Nodes, thrifty, got, e, want)
		}
		*list = got
	}
	return least, leanest
}

// sizes are of bytes that fill, or do not fill, blocks.
func sizes() []int { return []int{0, 0, 1, 512, 513, 1024, 4096, 4097, 4608, 8192} }

// heavy is a tree by chance whose files are of all sizes, with a directory that has some 16 names of one of them in it.
func heavy(t *testing.T, r *rand.Rand) api.Tree {
	t.Helper()
	x := sample.Chance(t, r)
	for i := range x.Files {
		x.Files[i].Data = blank(sizes()[r.Intn(len(sizes()))])
	}
	if len(x.Files) > 0 {
		x.Nodes = append(x.Nodes, api.Node{Path: "dir", File: -1})
		for i := range 15 + r.Intn(3) {
			x.Nodes = append(x.Nodes, api.Node{Path: "dir/" + strconv.Itoa(10+i)})
		}
	}
	x, e := tree.Canon(x)
	is(t, "a right tree", e+tree.Check(x), api.OK)
	return x
}

// contents are at hand; one is too long.
func contents() [][]byte {
	return [][]byte{blank(0), blank(1), blank(600), blank(4097), blank(api.MaxData + 1)}
}

// chance is actions by chance, most of them such that the tree does not refuse them at the beginning.
func chance(r *rand.Rand, s api.Tree, count int) []api.Act {
	paths := strings.Fields("a b c d a/a a/b b/a dir/x dir/y dir/10 x y . a/x/y")
	for _, n := range s.Nodes {
		paths = append(paths, n.Path)
	}
	some := func() string { return paths[r.Intn(len(paths))] }
	var acts []api.Act
	for range count {
		var act api.Act
		for range r.Intn(20) {
			act = api.Act{Op: r.Intn(11), Path: some(), To: some(), Mode: r.Intn(3) * 256, Ref: r.Intn(7) - 1}
			if _, e := model.Do(s, act, contents()); e == api.OK {
				break
			}
		}
		acts = append(acts, act)
	}
	return acts
}

// straight are needs by chance of which nothing goes round.
func straight(r *rand.Rand, count, most int) [][]int {
	needs := make([][]int, count)
	row := r.Perm(count)
	for i, n := range row {
		for range r.Intn(most + 1) {
			if i > 0 {
				needs[n] = append(needs[n], row[r.Intn(i)])
			}
		}
	}
	return needs
}

// TestP1601Chance: trees, actions and needs by chance.
func TestP1601Chance(t *testing.T) {
	r := rand.New(rand.NewSource(161))
	unlike := 0
	for range 3000 {
		s := heavy(t, r)
		count := 1 + r.Intn(14)
		least, leanest := agrees(t, s, chance(r, s, count), straight(r, count, r.Intn(3)), contents())
		if !slices.Equal(least, leanest) {
			unlike++
		}
	}
	is(t, "many are unlike", unlike > 1000, true)
}

// TestP1601Pairs: two actions, in both orders, by their growths.
func TestP1601Pairs(t *testing.T) {
	r := rand.New(rand.NewSource(162))
	met := map[complex128]int{}
	for range 3000 {
		s := heavy(t, r)
		acts := chance(r, s, 2)
		for _, act := range acts {
			growth, _ := grow(t, s, act, contents())
			met[growth]++
		}
		agrees(t, s, acts, make([][]int, 2), contents())
		slices.Reverse(acts)
		agrees(t, s, acts, make([][]int, 2), contents())
	}
	is(t, "growths of all kinds", len(met) > 15 && met[1] > 5 && met[-1] > 5 && met[1i] > 5 && met[-1i] > 5, true)
}

// sound holds the orders of what is to be done against plain, and against what follows: b comes of a.
func sound(t *testing.T, a, b api.Tree) (unlike bool) {
	t.Helper()
	stock, e := match.Fresh(a, b)
	is(t, "Fresh", e, api.OK)
	acts, e := diff.Acts(a, b, stock)
	is(t, "Acts", e, api.OK)
	needs, e := graph.Needs(a, acts)
	is(t, "Needs", e, api.OK)
	acts, needs, _, e = cut.Break(acts, needs)
	is(t, "Break", e, api.OK)
	least, leanest := agrees(t, a, acts, needs, stock)
	for _, list := range [][]int{least, leanest} {
		proper(t, list, needs)
		var all []api.Ins
		for _, n := range list {
			all = append(all, acts[n])
		}
		got, at, e := model.Run(a, all, stock)
		if e != api.OK || !tree.Same(got, b) {
			t.Fatalf("%v to %v by %v: %v, %d, %v", a, b, all, got, at, e)
		}
	}
	return !slices.Equal(least, leanest)
}

// proper wants each number once, and each behind those that it needs.
func proper(t *testing.T, list []int, needs [][]int) {
	t.Helper()
	at := map[int]int{}
	for i, n := range list {
		at[n] = i
	}
	is(t, "how many there are", len(list), len(needs))
	is(t, "how many there are once", len(at), len(needs))
	for n, need := range needs {
		is(t, "a number", list[at[n]], n)
		for _, m := range need {
			is(t, "ahead of what needs it", at[m] < at[n], true)
		}
	}
}

// TestP1602All: all small trees.
func TestP1602All(t *testing.T) {
	list := sample.Small()
	unlike := 0
	for _, a := range list {
		for _, b := range list {
			if sound(t, a, b) {
				unlike++
			}
		}
	}
	is(t, "some are unlike", unlike > 500, true)
}

// TestP1602Chance: trees grown by chance.
func TestP1602Chance(t *testing.T) {
	r := rand.New(rand.NewSource(163))
	unlike := 0
	for range 400 {
		if sound(t, heavy(t, r), heavy(t, r)) {
			unlike++
		}
	}
	is(t, "many are unlike", unlike > 100, true)
}

// TestP1602Needs: needs alone, of many actions.
func TestP1602Needs(t *testing.T) {
	r := rand.New(rand.NewSource(164))
	for range 300 {
		s := heavy(t, r)
		count := r.Intn(150)
		acts, needs := chance(r, s, count), straight(r, count, 4)
		for _, thrifty := range []bool{false, true} {
			list, e := order.Order(s, acts, needs, nil, thrifty)
			is(t, "Order", e, api.OK)
			proper(t, list, needs)
		}
	}
}

// TestP1602Round: needs by chance are refused just where something goes round.
func TestP1602Round(t *testing.T) {
	r := rand.New(rand.NewSource(165))
	met := map[api.Errno]int{}
	for range 2000 {
		count := 1 + r.Intn(6)
		needs := sample.Needs(r, count, 2)
		round, e := comp.Round(needs)
		is(t, "Round", e, api.OK)
		if acts := chance(r, api.Tree{}, count); len(round) > 0 {
			refused(t, fmt.Sprint(needs), api.Tree{}, acts, needs, api.ErrCycle)
			met[api.ErrCycle]++
		} else {
			agrees(t, api.Tree{}, acts, needs, nil)
			met[api.OK]++
		}
	}
	is(t, "some of both", met[api.OK] > 300 && met[api.ErrCycle] > 300, true)
}

// TestP1601Great: as many actions as there may be, on a tree of as many nodes, of files as great as they may be.
func TestP1601Great(t *testing.T) {
	const most = api.MaxActs
	s := sample.Flat(api.MaxLoose)
	for i := range s.Nodes {
		s.Nodes[i] = api.Node{Path: s.Nodes[i].Path, File: i}
		s.Files = append(s.Files, api.File{Data: blank(api.MaxData)})
	}
	var acts []api.Act
	var first, chmods, refused []int
	for i := range most {
		p := strconv.Itoa(1000 + i/4)
		acts = append(acts, []api.Act{{Op: api.OpChmod, Path: p}, {Op: api.OpUnlink, Path: p}, {Op: api.OpMkdir, Path: p}, {Op: api.OpCopy, Path: p, To: "x"}}[i%4])
	}
	// As long as a file is there, to take one away is less than all else; when they are gone, modes and copies are refused, and only directories are more than that.
	for i := 0; i < most; i += 4 {
		first = append(first, i+1)
		chmods = append(chmods, i)
		refused = append(refused, i+3)
	}
	got, e := order.Order(s, acts, make([][]int, most), nil, true)
	is(t, "Order", e, api.OK)
	proper(t, got, make([][]int, most))
	sorted := func(list []int) []int { return slices.Sorted(slices.Values(list)) }
	is(t, "all files go first", slices.Equal(sorted(got[:most/4]), first), true)
	both := sorted(append(chmods, refused...))
	is(t, "then what is refused", slices.Equal(got[most/4:3*most/4], both), true)
	got, e = order.Order(s, acts, make([][]int, most), nil, false)
	is(t, "Order", e, api.OK)
	is(t, "by numbers", slices.IsSorted(got), true)

	chain := make([][]int, most)
	for i := range most - 1 {
		chain[i] = []int{i + 1}
	}
	all := make([][]int, most)
	for i := range all {
		all[i] = got[i+1:]
	}
	for _, needs := range [][][]int{chain, all} {
		for _, thrifty := range []bool{false, true} {
			list, e := order.Order(s, acts, needs, nil, thrifty)
			is(t, "Order", e, api.OK)
			slices.Reverse(list)
			is(t, "each needs those behind it", slices.Equal(list, got), true)
		}
	}
}

// whole is all that is handed in, spare room too, in memory of its own.
func whole(s api.Tree, acts []api.Act, needs [][]int, stock [][]byte) []any {
	bytes := slices.Clone(stock[:cap(stock)])
	for i, b := range bytes {
		bytes[i] = slices.Clone(b[:cap(b)])
	}
	return []any{sample.Whole(s), slices.Clone(acts[:cap(acts)]), sample.WholeLists(needs), bytes}
}

// TestP1603Stays: what is handed in stays, also where what was answered is turned; what was answered stays where what was handed in is turned.
func TestP1603Stays(t *testing.T) {
	r := rand.New(rand.NewSource(166))
	for i := range 1000 {
		thrifty := i%2 == 0
		s := sample.Roomy(heavy(t, r))
		count := r.Intn(9)
		acts := append(chance(r, s, count), sample.Acts(t, "unlink spare; rename zz yy")...)[:count]
		needs := sample.RoomyLists(straight(r, count, 2))
		stock := append(make([][]byte, 0, 9), sample.Room(blank(600)), sample.Room(blank(1)))
		was := whole(s, acts, needs, stock)
		list, e := order.Order(s, acts, needs, stock, thrifty)
		is(t, "Order", e, api.OK)
		told := fmt.Sprint(list)
		sample.Spoil([][]int{list})
		if now := whole(s, acts, needs, stock); !reflect.DeepEqual(now, was) {
			t.Fatalf("%v, was %v", now, was)
		}
		list, _ = order.Order(s, acts, needs, stock, thrifty)
		is(t, "told anew", fmt.Sprint(list), told)
		sample.Spoil(needs)
		clear(needs)
		clear(acts)
		clear(s.Nodes)
		is(t, "what was told", fmt.Sprint(list), told)
	}
	s, acts, needs := sample.Roomy(sample.Tree(t, "a=x")), sample.Acts(t, "unlink a; chmod a 1; mkdir b 1"), sample.RoomyLists(sample.Lists(t, "1,0,-"))
	was := whole(s, acts, needs, nil)
	refused(t, "what goes round", s, acts, needs, api.ErrCycle)
	is(t, "what is refused stays", reflect.DeepEqual(whole(s, acts, needs, nil), was), true)
}

// TestTogether: calls at one time hinder one another in nothing.
func TestTogether(t *testing.T) {
	s, acts := sized(t, "a=5000 b>a"), sample.Acts(t, "mkdir c 1; unlink a; unlink b; rename b d")
	needs := sample.Lists(t, "-,-,1,-")
	var wait sync.WaitGroup
	for range 8 {
		wait.Go(func() {
			for range 200 {
				least, _ := order.Order(s, acts, needs, nil, false)
				leanest, _ := order.Order(s, acts, needs, nil, true)
				if fmt.Sprint(least, leanest) != "[0 1 2 3] [1 2 3 0]" {
					t.Errorf("%v, %v", least, leanest)
				}
			}
		})
	}
	wait.Wait()
}

func TestExamples(t *testing.T) {
	s := sized(t, "a=5000")
	acts := sample.Acts(t, "write b 420 0; unlink a; mkdir c 493; rmdir d")
	stock := [][]byte{blank(600)}
	told(t, "the chapter's", s, acts, make([][]int, 4), stock, false, []int{0, 1, 2, 3})
	told(t, "the chapter's", s, acts, make([][]int, 4), stock, true, []int{1, 3, 2, 0})

	// chapter 15's first one
	s = sample.Tree(t, "a=x d/ d/y=y")
	acts = sample.Acts(t, "unlink d/y; rmdir d; mkdir a 448; rename a .ts-0; write b 420 0; link b c; chmod a/x 384; rename .ts-0 a/x")
	needs := sample.Lists(t, "-,0,3,-,-,4,7,2 3")
	told(t, "chapter 15's", s, acts, needs, sample.Contents("n"), false, []int{0, 1, 3, 2, 4, 5, 7, 6})
	told(t, "chapter 15's", s, acts, needs, sample.Contents("n"), true, []int{0, 1, 3, 2, 7, 6, 4, 5})
}
