package sample_test

import (
	"fmt"
	"math/rand"
	"reflect"
	"slices"
	"testing"

	"shunt/api"
	"shunt/sample"
	"shunt/tree"
)

// deaf is a test that takes note of what fails, and goes on.
type deaf struct{ failed int }

func (d *deaf) Helper() {}

func (d *deaf) Fatalf(string, ...any) { d.failed++ }

func TestTree(t *testing.T) {
	got := sample.Tree(t, "b=hi:384 a/ a/x>b c/:1 d= e=hi")
	want := api.Tree{
		Nodes: []api.Node{{Path: "a", File: -1, Mode: 493}, {Path: "a/x"}, {Path: "b"}, {Path: "c", File: -1, Mode: 1}, {Path: "d", File: 1}, {Path: "e", File: 2}},
		Files: []api.File{{Mode: 384, Data: []byte("hi")}, {Mode: 420}, {Mode: 420, Data: []byte("hi")}},
	}
	if !tree.Same(got, want) {
		t.Errorf("%v, want %v", got, want)
	}
	for _, words := range []string{"a/b=x", "a=x a=y", ".ts-0/", "a/:512", "a/:x", "a=x:y", "A=x"} {
		d := &deaf{}
		sample.Tree(d, words)
		if d.failed == 0 {
			t.Errorf("%s: nothing failed", words)
		}
	}
}

func TestActs(t *testing.T) {
	got := sample.Acts(t, "unlink a; rmdir b; mkdir c 1; rename d e; write f 2 3; copy g h 4; link i j; chmod k 5")
	want := []api.Act{
		{Op: api.OpUnlink, Path: "a"}, {Op: api.OpRmdir, Path: "b"}, {Op: api.OpMkdir, Path: "c", Mode: 1}, {Op: api.OpRename, Path: "d", To: "e"},
		{Op: api.OpWrite, Path: "f", Mode: 2, Ref: 3}, {Op: api.OpCopy, Path: "g", To: "h", Mode: 4}, {Op: api.OpLink, Path: "i", To: "j"}, {Op: api.OpChmod, Path: "k", Mode: 5},
	}
	if !slices.Equal(got, want) {
		t.Errorf("%v, want %v", got, want)
	}
	if got := sample.Acts(t, ""); len(got) != 0 {
		t.Errorf("%v, want none", got)
	}
	for _, words := range []string{"unlink", "unlink a b", "mkdir a", "mkdir a x", "sync", "rename a", "write a 1", "write a 1 x"} {
		d := &deaf{}
		sample.Acts(d, words)
		if d.failed == 0 {
			t.Errorf("%s: nothing failed", words)
		}
	}
}

func TestMany(t *testing.T) {
	r := rand.New(rand.NewSource(1))
	list := append(sample.Small(), sample.Tree(t, ""), sample.Flat(api.MaxNodes))
	for range 100 {
		list = append(list, sample.Chance(t, r))
	}
	for _, x := range list {
		if e := tree.Check(x); e != api.OK {
			t.Errorf("%v: %v", x, e)
		}
		y := sample.Roomy(x)
		if !tree.Same(x, y) || cap(y.Nodes) < len(x.Nodes)+2 || cap(y.Files) < len(x.Files)+1 {
			t.Errorf("%v, want %v with spare room", y, x)
		}
		w := sample.Whole(y)
		if !reflect.DeepEqual(w.Nodes[:len(x.Nodes)], y.Nodes) || len(w.Nodes) != cap(y.Nodes) || len(w.Files) != cap(y.Files) {
			t.Errorf("%v, want all of %v", w, y)
		}
	}
	if got := len(sample.Small()); got != 81 {
		t.Errorf("%d small trees", got)
	}
}

func TestContents(t *testing.T) {
	list := sample.Contents("a", "", "bc")
	if got := fmt.Sprintf("%q", list); got != `["a" "" "bc"]` {
		t.Error(got)
	}
	if got := fmt.Sprintf("%q", sample.Texts(list)); got != `["a" "" "bc"]` {
		t.Error(got)
	}
	b := sample.Room([]byte("abc"))
	if got := string(b[:7]); string(b) != "abc" || got != "abcrrrr" {
		t.Error(got)
	}
}
