package emit_test

import (
	"fmt"
	"math"
	"math/rand"
	"runtime"
	"slices"
	"strconv"
	"strings"
	"sync"
	"testing"
	"time"

	"shunt/api"
	"shunt/cut"
	"shunt/diff"
	"shunt/emit"
	"shunt/graph"
	"shunt/match"
	"shunt/model"
	"shunt/order"
	"shunt/sample"
	"shunt/tree"
)

// is holds what a call answered against what it should have.
func is[T comparable](t *testing.T, what string, got, want T) {
	t.Helper()
	if got != want {
		t.Errorf("%s: %v, want %v", what, got, want)
	}
}

// told wants Emit to tell these instructions.
func told(t *testing.T, what string, acts []api.Act, want []api.Ins) {
	t.Helper()
	got, e := emit.Emit(acts)
	if e != api.OK || !slices.Equal(got, want) {
		t.Errorf("%s: %v, %v, want %v", what, got, e, want)
	}
}

// refused wants this error, and nothing beside it.
func refused(t *testing.T, what string, acts []api.Act, want api.Errno) {
	t.Helper()
	got, e := emit.Emit(acts)
	if e != want || got != nil {
		t.Errorf("%s: %v, %v, want %v", what, got, e, want)
	}
}

// rows are actions, and their instructions.
type rows []struct{ acts, want string }

func (r rows) hold(t *testing.T) {
	t.Helper()
	for _, x := range r {
		told(t, x.acts, sample.Acts(t, x.acts), sample.Ins(t, x.want))
	}
}

// TestP1701Kinds: each kind of action alone.
func TestP1701Kinds(t *testing.T) {
	rows{
		{"rename a b", "link a b; unlink a; sync"},
		{"rename a a", "link a a; unlink a; sync"},
		{"rename d/e d", "link d/e d; unlink d/e; sync"},
		{"rename a .ts-0", "link a .ts-0; unlink a; sync"},
		{"rename .ts-0 b", "link .ts-0 b; unlink .ts-0; sync"},
		{"mkdir a 493", "mkdir a 448; chmod a 493; sync"},
		{"write a 420 0", "write a 384 0; chmod a 420; sync"},
		{"write a 420 7", "write a 384 7; chmod a 420; sync"},
		{"copy a b 420", "copy a b 384; chmod b 420; sync"},
		{"rmdir a", "rmdir a; sync"},
		{"link a b", "link a b; sync"},
		{"unlink a", "unlink a; sync"},
		{"chmod a 420", "chmod a 420; sync"},
	}.hold(t)
}

// TestP1701Modes: the modes at which there is one instruction less, and those beside them.
func TestP1701Modes(t *testing.T) {
	for mode := range api.MaxMode + 1 {
		m := strconv.Itoa(mode)
		dir, write, copies := "mkdir a 448; chmod a "+m+"; sync", "write a 384 3; chmod a "+m+"; sync", "copy a b 384; chmod b "+m+"; sync"
		switch mode {
		case 448:
			dir = "mkdir a 448; sync"
		case 384:
			write, copies = "write a 384 3; sync", "copy a b 384; sync"
		}
		rows{{"mkdir a " + m, dir}, {"write a " + m + " 3", write}, {"copy a b " + m, copies}, {"chmod a " + m, "chmod a " + m + "; sync"}}.hold(t)
	}
}

// TestP1701Rows: several actions, one behind the other.
func TestP1701Rows(t *testing.T) {
	rows{
		{"", ""},
		{"unlink a; unlink a; rmdir b", "unlink a; sync; unlink a; sync; rmdir b; sync"},
		{"mkdir a 448; mkdir b 384; mkdir a 448", "mkdir a 448; sync; mkdir b 448; chmod b 384; sync; mkdir a 448; sync"},
		{"write a 384 1; write b 448 2; copy a c 384; copy b d 448", "write a 384 1; sync; write b 384 2; chmod b 448; sync; copy a c 384; sync; copy b d 384; chmod d 448; sync"},
		// nothing is fused, nothing is put in another order
		{"link a b; unlink a; rename b a", "link a b; sync; unlink a; sync; link b a; unlink b; sync"},
		{"mkdir d 1; chmod d 2; chmod d 3; rmdir d", "mkdir d 448; chmod d 1; sync; chmod d 2; sync; chmod d 3; sync; rmdir d; sync"},
		{"rename b .ts-0; rename a b; rename .ts-0 a", "link b .ts-0; unlink b; sync; link a b; unlink a; sync; link .ts-0 a; unlink .ts-0; sync"},
		{"chmod z 1; copy c b 2; unlink y; write x 3 4; rmdir w; mkdir v 5; link u t; rename s r", "chmod z 1; sync; copy c b 384; chmod b 2; sync; unlink y; sync; write x 384 4; chmod x 3; sync; rmdir w; sync; mkdir v 448; chmod v 5; sync; link u t; sync; link s r; unlink s; sync"},
	}.hold(t)
	told(t, "none", nil, nil)
	told(t, "none", []api.Act{}, nil)
}

// full is an action that has something in each field.
func full(op int) api.Act { return api.Act{Op: op, Path: "a", To: "b", Mode: 9, Ref: 5} }

// TestP1701Fields: of each action the fields that its Op has come out, and no others.
func TestP1701Fields(t *testing.T) {
	for op, want := range map[int]string{
		api.OpMkdir:  "mkdir a 448; chmod a 9; sync",
		api.OpRmdir:  "rmdir a; sync",
		api.OpRename: "link a b; unlink a; sync",
		api.OpLink:   "link a b; sync",
		api.OpUnlink: "unlink a; sync",
		api.OpWrite:  "write a 384 5; chmod a 9; sync",
		api.OpCopy:   "copy a b 384; chmod b 9; sync",
		api.OpChmod:  "chmod a 9; sync",
	} {
		told(t, "op "+strconv.Itoa(op), []api.Act{full(op)}, sample.Ins(t, want))
	}
	dir, write, copies := full(api.OpMkdir), full(api.OpWrite), full(api.OpCopy)
	dir.Mode, write.Mode, copies.Mode = 448, 384, 384
	told(t, "alone", []api.Act{dir, write, copies}, sample.Ins(t, "mkdir a 448; sync; write a 384 5; sync; copy a b 384; sync"))
	told(t, "empty", []api.Act{{Op: api.OpLink}, {Op: api.OpRmdir}, {Op: api.OpUnlink}, {Op: api.OpChmod}}, []api.Ins{{Op: api.OpLink}, {Op: 9}, {Op: api.OpRmdir}, {Op: 9}, {Op: api.OpUnlink}, {Op: 9}, {Op: api.OpChmod}, {Op: 9}})
}

// TestP1701Anything: what no tree would take comes out as it came in.
func TestP1701Anything(t *testing.T) {
	for _, p := range []string{"", "/", "a//b", "..", "\xff\x00", strings.Repeat("n", 100000)} {
		for _, n := range []int{-1, 512, math.MaxInt, math.MinInt, 0} {
			told(t, "anything", []api.Act{
				{Op: api.OpRename, Path: p, To: p + "x", Mode: n, Ref: n},
				{Op: api.OpMkdir, Path: p, Mode: n},
				{Op: api.OpWrite, Path: p, Mode: n, Ref: n},
				{Op: api.OpCopy, Path: p + "x", To: p, Mode: n},
				{Op: api.OpChmod, Path: p, Mode: n},
			}, []api.Ins{
				{Op: api.OpLink, Path: p, To: p + "x"}, {Op: api.OpUnlink, Path: p}, {Op: api.OpSync},
				{Op: api.OpMkdir, Path: p, Mode: 448}, {Op: api.OpChmod, Path: p, Mode: n}, {Op: api.OpSync},
				{Op: api.OpWrite, Path: p, Mode: 384, Ref: n}, {Op: api.OpChmod, Path: p, Mode: n}, {Op: api.OpSync},
				{Op: api.OpCopy, Path: p + "x", To: p, Mode: 384}, {Op: api.OpChmod, Path: p, Mode: n}, {Op: api.OpSync},
				{Op: api.OpChmod, Path: p, Mode: n}, {Op: api.OpSync},
			})
		}
	}
}

// TestP1701Errors: too many actions, and what is none, wherever it stands.
func TestP1701Errors(t *testing.T) {
	const most = api.MaxActs
	for _, op := range []int{0, -1, api.OpSync, 10, 11, 256 + api.OpLink, math.MaxInt, math.MinInt} {
		what := "op " + strconv.Itoa(op)
		for _, count := range []int{1, 2, 3, most} {
			for _, at := range []int{0, count / 2, count - 1} {
				acts := slices.Repeat([]api.Act{full(api.OpRename)}, count)
				acts[at].Op = op
				refused(t, what, acts, api.ErrOp)
			}
		}
		refused(t, what+", too many", slices.Repeat([]api.Act{full(op)}, most+1), api.ErrLong)
	}
	for op := api.OpMkdir; op <= api.OpChmod; op++ {
		refused(t, "too many", slices.Repeat([]api.Act{full(op)}, most+1), api.ErrLong)
		refused(t, "far too many", slices.Repeat([]api.Act{full(op)}, 100*most), api.ErrLong)
		acts := slices.Repeat([]api.Act{full(op)}, most)
		told(t, "as many as may be", acts, plain(acts))
	}
}

// plain tells what the table says: each action by the words of its row.
func plain(acts []api.Act) []api.Ins {
	var list []api.Ins
	for _, a := range acts {
		chmod := api.Ins{Op: api.OpChmod, Path: a.Path, Mode: a.Mode}
		var made []api.Ins
		if a.Op == api.OpRename {
			made = []api.Ins{{Op: api.OpLink, Path: a.Path, To: a.To}, {Op: api.OpUnlink, Path: a.Path}}
		}
		if a.Op == api.OpMkdir {
			made = []api.Ins{{Op: api.OpMkdir, Path: a.Path, Mode: 448}, chmod}
		}
		if a.Op == api.OpWrite {
			made = []api.Ins{{Op: api.OpWrite, Path: a.Path, Mode: 384, Ref: a.Ref}, chmod}
		}
		if a.Op == api.OpCopy {
			chmod.Path = a.To
			made = []api.Ins{{Op: api.OpCopy, Path: a.Path, To: a.To, Mode: 384}, chmod}
		}
		if a.Op == api.OpRmdir || a.Op == api.OpUnlink {
			made = []api.Ins{{Op: a.Op, Path: a.Path}}
		}
		if a.Op == api.OpLink {
			made = []api.Ins{{Op: a.Op, Path: a.Path, To: a.To}}
		}
		if a.Op == api.OpChmod {
			made = []api.Ins{chmod}
		}
		if len(made) == 2 && made[1].Op == api.OpChmod && made[0].Mode == a.Mode {
			made = made[:1]
		}
		list = append(append(list, made...), api.Ins{Op: api.OpSync})
	}
	return list
}

// chance is an action by chance, of a kind that there is.
func chance(r *rand.Rand, paths []string) api.Act {
	modes := []int{0, 383, 384, 420, 448, 493, 511}
	some := func() string { return paths[r.Intn(len(paths))] }
	return api.Act{Op: 1 + r.Intn(api.OpChmod), Path: some(), To: some(), Mode: modes[r.Intn(len(modes))], Ref: r.Intn(3)}
}

// TestP1701Chance: lists by chance.
func TestP1701Chance(t *testing.T) {
	r := rand.New(rand.NewSource(171))
	for i := range 2000 {
		acts := make([]api.Act, r.Intn(20))
		for i := range acts {
			acts[i] = chance(r, []string{"a", "b", "a/b", ""})
		}
		if i%4 > 0 || len(acts) == 0 {
			told(t, "by chance", acts, plain(acts))
			continue
		}
		acts[r.Intn(len(acts))].Op = []int{0, api.OpSync, -3, 12}[r.Intn(4)]
		refused(t, "by chance", acts, api.ErrOp)
	}
}

// stock is what the actions by chance write.
func stock() [][]byte { return sample.Contents("x", "", "new") }

// follows holds what the instructions make of a tree against what the actions do, which are not refused on it.
func follows(t *testing.T, s api.Tree, acts []api.Act, stock [][]byte, want api.Tree) {
	t.Helper()
	list, e := emit.Emit(acts)
	is(t, "Emit", e, api.OK)
	got, n, e := model.Run(s, list, stock)
	if e != api.OK || n != len(list) || !tree.Same(got, want) {
		t.Fatalf("%v on %v: %v, %v at %d of %v, want %v", acts, s, got, e, n, list, want)
	}
}

// TestP1702Each: each action that a small tree does not refuse, alone.
func TestP1702Each(t *testing.T) {
	paths := strings.Fields("a b c a/b a/c b/a")
	met := map[int]int{}
	for _, s := range sample.Small() {
		for op := api.OpMkdir; op <= api.OpChmod; op++ {
			for _, p := range paths {
				for _, to := range paths {
					for _, mode := range []int{384, 448, 5} {
						act := api.Act{Op: op, Path: p, To: to, Mode: mode, Ref: 2}
						if want, e := model.Do(s, act, stock()); e == api.OK {
							follows(t, s, []api.Act{act}, stock(), want)
							met[op]++
						}
					}
				}
			}
		}
	}
	for op := api.OpMkdir; op <= api.OpChmod; op++ {
		is(t, "some of op "+strconv.Itoa(op), met[op] > 100, true)
	}
}

// TestP1702Chance: actions by chance, one behind the other, none of them refused.
func TestP1702Chance(t *testing.T) {
	r := rand.New(rand.NewSource(172))
	met := map[int]int{}
	for range 1000 {
		s := sample.Chance(t, r)
		paths := strings.Fields("a b c d a/a a/b b/a x x/y x/y/z")
		for _, n := range s.Nodes {
			paths = append(paths, n.Path)
		}
		var acts []api.Act
		want := s
		for range 200 {
			act := chance(r, paths)
			if made, e := model.Do(want, act, stock()); e == api.OK {
				acts, want = append(acts, act), made
				met[act.Op]++
			}
		}
		follows(t, s, acts, stock(), want)
	}
	for op := api.OpMkdir; op <= api.OpChmod; op++ {
		is(t, "many of op "+strconv.Itoa(op), met[op] > 300, true)
	}
}

// way tells what is to be done that b comes of a, in an order in which it can be.
func way(t *testing.T, a, b api.Tree, stock [][]byte, thrifty bool) []api.Act {
	t.Helper()
	acts, e := diff.Acts(a, b, stock)
	is(t, "Acts", e, api.OK)
	needs, e := graph.Needs(a, acts)
	is(t, "Needs", e, api.OK)
	acts, needs, _, e = cut.Break(acts, needs)
	is(t, "Break", e, api.OK)
	row, e := order.Order(a, acts, needs, stock, thrifty)
	is(t, "Order", e, api.OK)
	var list []api.Act
	for _, n := range row {
		list = append(list, acts[n])
	}
	return list
}

// comes wants b to come of a by instructions.
func comes(t *testing.T, a, b api.Tree) {
	t.Helper()
	fresh, e := match.Fresh(a, b)
	is(t, "Fresh", e, api.OK)
	for _, thrifty := range []bool{false, true} {
		follows(t, a, way(t, a, b, fresh, thrifty), fresh, b)
	}
}

// TestP1702Trees: what is to be done between trees.
func TestP1702Trees(t *testing.T) {
	small := sample.Small()
	for _, a := range small {
		for _, b := range small {
			comes(t, a, b)
		}
	}
	r := rand.New(rand.NewSource(173))
	for range 500 {
		comes(t, sample.Chance(t, r), sample.Chance(t, r))
	}
}

// TestP1702Bound: trees of as many nodes as there may be.
func TestP1702Bound(t *testing.T) {
	acts := sample.Acts(t, "rename a z; rename z a; copy a b 1; chmod b 2; unlink b; mkdir c 3; rmdir c; write d 4 0; unlink a; rename d a; link a e")
	s := sample.Flat(api.MaxLoose - 2)
	s.Nodes = append(s.Nodes, api.Node{Path: "a"})
	s.Files = []api.File{{Data: []byte("x")}}
	s, e := tree.Canon(s)
	is(t, "Canon", e, api.OK)
	want, _, e := model.Run(s, acts, stock())
	is(t, "the actions", e, api.OK)
	is(t, "all nodes", len(want.Nodes), api.MaxLoose)
	follows(t, s, acts, stock(), want)

	// Where no node is left the link of a rename is one too many; the chapter's table has no other instructions for it.
	list, e := emit.Emit(sample.Acts(t, "rename a z"))
	is(t, "Emit", e, api.OK)
	_, n, e := model.Run(want, list, nil)
	is(t, "no node left", fmt.Sprint(n, e), fmt.Sprint(0, api.ErrBound))
}

// TestP1702Most: as many actions as there may be make no more instructions than there may be.
func TestP1702Most(t *testing.T) {
	s := sample.Tree(t, "a=x")
	acts := sample.Acts(t, strings.Repeat("rename a b; rename b a; mkdir d 1; rmdir d; ", api.MaxActs/4))
	is(t, "actions", len(acts), api.MaxActs)
	follows(t, s, acts, nil, s)
	follows(t, s, sample.Acts(t, strings.Repeat("rename a b; rename b a; ", api.MaxActs/2)), nil, s)
}

// TestP1703Stays: what is handed in stays, also where what was answered is turned; what was answered stays where what was handed in is turned.
func TestP1703Stays(t *testing.T) {
	r := rand.New(rand.NewSource(174))
	for i := range 1000 {
		count := r.Intn(9)
		acts := make([]api.Act, count+3)
		for i := range acts {
			acts[i] = chance(r, []string{"a", "b"})
		}
		if i%5 == 0 {
			acts[0].Op = api.OpSync
		}
		acts = acts[:count]
		was := slices.Clone(acts[:cap(acts)])
		list, e := emit.Emit(acts)
		told := slices.Clone(list)
		_ = append(list, full(api.OpSync))
		clear(list[:cap(list)])
		is(t, "what was handed in", slices.Equal(acts[:cap(acts)], was), true)
		list, again := emit.Emit(acts)
		is(t, "told anew", again, e)
		is(t, "told anew", slices.Equal(list, told), true)
		clear(acts[:cap(acts)])
		is(t, "what was told", slices.Equal(list, told), true)
	}
}

// TestJoined: calls at one time hinder one another in nothing, and leave no goroutine behind.
func TestJoined(t *testing.T) {
	acts := sample.Acts(t, "rename a b; mkdir c 1; write d 2 3; copy d e 4; unlink b; chmod d 5")
	want := plain(acts)
	before := runtime.NumGoroutine()
	var calls sync.WaitGroup
	for range 8 {
		calls.Go(func() {
			for range 200 {
				if got, e := emit.Emit(acts); e != api.OK || !slices.Equal(got, want) {
					t.Errorf("%v, %v, want %v", got, e, want)
				}
				if _, e := emit.Emit(append(slices.Clone(acts), api.Act{})); e != api.ErrOp {
					t.Errorf("%v, want %v", e, api.ErrOp)
				}
			}
		})
	}
	calls.Wait()
	for range 1000 { // one that has sent its last instruction may still be on its way out
		if runtime.NumGoroutine() <= before {
			return
		}
		time.Sleep(time.Millisecond)
	}
	t.Errorf("%d goroutines, before %d", runtime.NumGoroutine(), before)
}

func TestExamples(t *testing.T) {
	rows{
		{"rename a b; mkdir c 493", "link a b; unlink a; sync; mkdir c 448; chmod c 493; sync"},
		{"write d 384 2", "write d 384 2; sync"},
	}.hold(t)
}
