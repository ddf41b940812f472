package sample_test

import (
	"fmt"
	"math/rand"
	"reflect"
	"slices"
	"testing"

	"shunt/api"
	"shunt/sample"
	"shunt/tree"
)

// deaf is a test that takes note of what fails, and goes on.
type deaf struct{ failed int }

func (d *deaf) Helper() {}

func (d *deaf) Fatalf(string, ...any) { d.failed++ }

func TestTree(t *testing.T) {
	got := sample.Tree(t, "b=hi:384 a/ a/x>b c/:1 d= e=hi")
	want := api.Tree{
		Nodes: []api.Node{{Path: "a", File: -1, Mode: 493}, {Path: "a/x"}, {Path: "b"}, {Path: "c", File: -1, Mode: 1}, {Path: "d", File: 1}, {Path: "e", File: 2}},
		Files: []api.File{{Mode: 384, Data: []byte("hi")}, {Mode: 420}, {Mode: 420, Data: []byte("hi")}},
	}
	if !tree.Same(got, want) {
		t.Errorf("%v, want %v", got, want)
	}
	for _, words := range []string{"a/b=x", "a=x a=y", ".ts-0/", "a/:512", "a/:x", "a=x:y", "A=x"} {
		d := &deaf{}
		sample.Tree(d, words)
		if d.failed == 0 {
			t.Errorf("%s: nothing failed", words)
		}
	}
}

func TestActs(t *testing.T) {
	got := sample.Acts(t, "unlink a; rmdir b; mkdir c 1; rename d e; write f 2 3; copy g h 4; link i j; chmod k 5")
	want := []api.Act{
		{Op: api.OpUnlink, Path: "a"}, {Op: api.OpRmdir, Path: "b"}, {Op: api.OpMkdir, Path: "c", Mode: 1}, {Op: api.OpRename, Path: "d", To: "e"},
		{Op: api.OpWrite, Path: "f", Mode: 2, Ref: 3}, {Op: api.OpCopy, Path: "g", To: "h", Mode: 4}, {Op: api.OpLink, Path: "i", To: "j"}, {Op: api.OpChmod, Path: "k", Mode: 5},
	}
	if !slices.Equal(got, want) {
		t.Errorf("%v, want %v", got, want)
	}
	if got := sample.Acts(t, ""); len(got) != 0 {
		t.Errorf("%v, want none", got)
	}
	for _, words := range []string{"unlink", "unlink a b", "mkdir a", "mkdir a x", "sync", "rename a", "write a 1", "write a 1 x"} {
		d := &deaf{}
		sample.Acts(d, words)
		if d.failed == 0 {
			t.Errorf("%s: nothing failed", words)
		}
	}
}

func TestIns(t *testing.T) {
	got := sample.Ins(t, "sync; unlink a; mkdir c 1; sync; sync")
	want := []api.Ins{{Op: api.OpSync}, {Op: api.OpUnlink, Path: "a"}, {Op: api.OpMkdir, Path: "c", Mode: 1}, {Op: api.OpSync}, {Op: api.OpSync}}
	if !slices.Equal(got, want) {
		t.Errorf("%v, want %v", got, want)
	}
	if got := sample.Ins(t, ""); len(got) != 0 {
		t.Errorf("%v, want none", got)
	}
	for _, words := range []string{"unlink", "sync a", "sync; mkdir a"} {
		d := &deaf{}
		sample.Ins(d, words)
		if d.failed == 0 {
			t.Errorf("%s: nothing failed", words)
		}
	}
}

func TestMany(t *testing.T) {
	r := rand.New(rand.NewSource(1))
	list := append(sample.Small(), sample.Tree(t, ""), sample.Flat(api.MaxNodes))
	for range 100 {
		list = append(list, sample.Chance(t, r))
	}
	for _, x := range list {
		if e := tree.Check(x); e != api.OK {
			t.Errorf("%v: %v", x, e)
		}
		y := sample.Roomy(x)
		if !tree.Same(x, y) || cap(y.Nodes) < len(x.Nodes)+2 || cap(y.Files) < len(x.Files)+1 {
			t.Errorf("%v, want %v with spare room", y, x)
		}
		w := sample.Whole(y)
		if !reflect.DeepEqual(w.Nodes[:len(x.Nodes)], y.Nodes) || len(w.Nodes) != cap(y.Nodes) || len(w.Files) != cap(y.Files) {
			t.Errorf("%v, want all of %v", w, y)
		}
	}
	if got := len(sample.Small()); got != 81 {
		t.Errorf("%d small trees", got)
	}
}

func TestContents(t *testing.T) {
	list := sample.Contents("a", "", "bc")
	if got := fmt.Sprintf("%q", list); got != `["a" "" "bc"]` {
		t.Error(got)
	}
	if got := fmt.Sprintf("%q", sample.Texts(list)); got != `["a" "" "bc"]` {
		t.Error(got)
	}
	b := sample.Room([]byte("abc"))
	if got := string(b[:7]); string(b) != "abc" || got != "abcrrrr" {
		t.Error(got)
	}
}

func TestLists(t *testing.T) {
	for words, want := range map[string]string{"": "[]", "-": "[[]]", "1, 0 0,-, -7": "[[1] [0 0] [] [-7]]", "-,": "[[] []]"} {
		if got := fmt.Sprint(sample.Lists(t, words)); got != want {
			t.Errorf("%q: %s, want %s", words, got, want)
		}
	}
	d := &deaf{}
	sample.Lists(d, "1,x")
	if d.failed == 0 {
		t.Error("x: nothing failed")
	}
	r := rand.New(rand.NewSource(2))
	for range 100 {
		list := sample.RoomyLists(sample.Needs(r, 5, 3))
		was := fmt.Sprint(list)
		whole := sample.WholeLists(list)
		if len(list) != 5 || len(whole) != cap(list) || len(whole) < 7 {
			t.Errorf("%v of %v", whole, list)
		}
		for i, l := range list {
			if len(l) > 3 || !slices.Equal(l[:len(l)+3], append(slices.Clone(l), 77, 78, 79)) || !slices.Equal(whole[i], l[:cap(l)]) {
				t.Errorf("%v of %v", whole[i], l)
			}
		}
		sample.Spoil(whole)
		if fmt.Sprint(list) != was {
			t.Errorf("%v, was %s", list, was)
		}
		sample.Spoil(list)
		for _, l := range sample.WholeLists(list)[:5] {
			if slices.ContainsFunc(l, func(n int) bool { return n != -9 }) {
				t.Errorf("%v", l)
			}
		}
	}
}

func TestLine(t *testing.T) {
	r := rand.New(rand.NewSource(3))
	seen := map[string]int{}
	for range 100 {
		seen[fmt.Sprint(sample.Line(r, sample.Lists(t, "1,-,0 1,4,3,-,6")))]++
	}
	if len(seen) != 4 || seen["[1 0 2 5]"] == 0 || seen["[1 0 5 2]"] == 0 || seen["[1 5 0 2]"] == 0 || seen["[5 1 0 2]"] == 0 {
		t.Error(seen)
	}
}
