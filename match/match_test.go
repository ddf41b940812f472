package match

import (
	"bytes"
	"math/rand"
	"reflect"
	"slices"
	"strconv"
	"strings"
	"testing"

	"shunt/api"
	"shunt/sample"
	"shunt/tree"
)

// is holds what a call answered against what it should have.
func is[T comparable](t *testing.T, what string, got, want T) {
	t.Helper()
	if got != want {
		t.Errorf("%s: %v, want %v", what, got, want)
	}
}

func keep(file int) api.Source { return api.Source{Kind: api.Keep, File: file} }

func copied(file int) api.Source { return api.Source{Kind: api.Copy, File: file} }

func brought(ref int) api.Source { return api.Source{Kind: api.New, Ref: ref} }

// matches wants Match to tell these sources.
func matches(t *testing.T, what string, a, b api.Tree, stock [][]byte, want ...api.Source) {
	t.Helper()
	got, e := Match(a, b, stock)
	if e != api.OK || !slices.Equal(got, want) {
		t.Errorf("%s: Match: %v, %v, want %v", what, got, e, want)
	}
}

// refuses wants Match to tell an error, and nothing else.
func refuses(t *testing.T, what string, a, b api.Tree, stock [][]byte, want api.Errno) {
	t.Helper()
	got, e := Match(a, b, stock)
	is(t, what+": Match", e, want)
	is(t, what+": how many beside the error", len(got), 0)
}

// fresh wants Fresh to tell these contents.
func fresh(t *testing.T, what string, a, b api.Tree, want ...string) {
	t.Helper()
	got, e := Fresh(a, b)
	if e != api.OK || !slices.Equal(sample.Texts(got), want) {
		t.Errorf("%s: Fresh: %q, %v, want %q", what, got, e, want)
	}
}

// TestP1101Names: the first time, by names.
func TestP1101Names(t *testing.T) {
	for _, x := range []struct {
		s, t string
		want []api.Source
	}{
		{"", "", nil},
		{"a=x b/ b/c=y", "", nil},
		{"a/ b/", "a/ c/", nil},
		{"a=x", "a=x", []api.Source{keep(0)}},
		{"a= b=", "a= b=", []api.Source{keep(0), keep(1)}},
		{"a=x b=x c=x", "a=x b=x c=x", []api.Source{keep(0), keep(1), keep(2)}},
		{"a=x b=x c=x", "c=x", []api.Source{keep(2)}},
		{"a=x b=x c=x", "b=x c=x", []api.Source{keep(1), keep(2)}},
		// ahead of the files that come by their bytes alone
		{"b=x", "a=x b=x", []api.Source{copied(1), keep(0)}},
		{"b=x c=x", "a=x c=x", []api.Source{keep(0), keep(1)}},
		{"b=x c=x", "a=x b=x", []api.Source{keep(1), keep(0)}},
		{"c=x d=x", "a=x b=x c=x", []api.Source{keep(1), copied(0), keep(0)}},
		// a name of other bytes, or of a directory
		{"a=y b=x", "a=x b=y", []api.Source{keep(1), keep(0)}},
		{"a=xx b=x", "a=x b=xx", []api.Source{keep(1), keep(0)}},
		{"a/ b=x", "a=x", []api.Source{keep(0)}},
		{"a/ a/b=x c=x", "a=x c=x", []api.Source{keep(0), keep(1)}},
		{"a=x", "a/ a/a=x", []api.Source{keep(0)}},
		{"a/ b=x", "a=x b/", []api.Source{keep(0)}},
		// the first name of several
		{"a=x b=x", "a=x b>a", []api.Source{keep(0)}},
		{"a=x b=x", "a=x b>a c=x", []api.Source{keep(0), keep(1)}},
		{"a=y b=x c=x", "a=x b>a c>a", []api.Source{keep(1)}},
		{"a/ b=x c=x", "a=x b>a c>a d=x", []api.Source{keep(0), keep(1)}},
		{"a=x b=x c>a", "b=x c>b", []api.Source{keep(1)}},
		{"a=x a-=x b>a", "a-=x b>a-", []api.Source{keep(1)}},
		{"a/ a-=x a/b=x", "a/ a/b=x a->a/b", []api.Source{keep(0)}},
		// what an earlier file has taken
		{"a=x b>a", "a=x b=x", []api.Source{keep(0), copied(0)}},
		{"a=x b>a c=x", "a=x b=x", []api.Source{keep(0), keep(1)}},
		{"a=x b>a c=x d=x", "a=x b=x d>b", []api.Source{keep(0), keep(2)}},
		{"a=x b>a c>a", "b=x c=x", []api.Source{keep(0), copied(0)}},
		{"a=x b>a", "a=x c>a b=x d>b", []api.Source{keep(0), copied(0)}},
	} {
		matches(t, x.s+" to "+x.t, sample.Tree(t, x.s), sample.Tree(t, x.t), nil, x.want...)
	}
}

// TestP1101Bytes: the second time, by bytes.
func TestP1101Bytes(t *testing.T) {
	for _, x := range []struct {
		s, t string
		want []api.Source
	}{
		{"a=x", "b=x", []api.Source{keep(0)}},
		{"a=", "b=", []api.Source{keep(0)}},
		{"a=x b=y", "a=y b=x", []api.Source{keep(1), keep(0)}},
		{"a=x b=y c=z", "a=y b=z c=x", []api.Source{keep(1), keep(2), keep(0)}},
		{"a=x b=x c=x", "d=x e=x", []api.Source{keep(0), keep(1)}},
		{"a=x b=x c=x", "c=x d=x e=x", []api.Source{keep(2), keep(0), keep(1)}},
		{"a=x b=x c=x", "b=x d=x e=x", []api.Source{keep(1), keep(0), keep(2)}},
		{"a=x b=x c=x", "0=x b=x d=x", []api.Source{keep(0), keep(1), keep(2)}},
		{"a=x b=x", "d=x e=x f=x g=x", []api.Source{keep(0), keep(1), copied(0), copied(0)}},
		{"a=y b=x c=y d=x", "e=x f=y g=y h=x", []api.Source{keep(1), keep(0), keep(2), keep(3)}},
		{"a=x b>a c=x", "d=x e>d f=x", []api.Source{keep(0), keep(1)}},
		{"a=xy b=x", "c=x d=xy", []api.Source{keep(1), keep(0)}},
		// a name that leads nowhere hinders nothing
		{"a=y b=x", "a=x c=y", []api.Source{keep(1), keep(0)}},
		{"a=x b>a c=x", "a=x b=x", []api.Source{keep(0), keep(1)}},
	} {
		matches(t, x.s+" to "+x.t, sample.Tree(t, x.s), sample.Tree(t, x.t), nil, x.want...)
	}
}

// TestP1101Rest: the third time: copies, and what is new.
func TestP1101Rest(t *testing.T) {
	for _, x := range []struct {
		s, t  string
		stock [][]byte
		want  []api.Source
	}{
		// copies of what is kept: the first one by the order of files, whether it stands ahead or behind, whichever time kept it
		{"z=x", "a=x b=x z=x", nil, []api.Source{copied(2), copied(2), keep(0)}},
		{"m=x z=x", "c=x d=x m=x", nil, []api.Source{keep(1), copied(0), keep(0)}},
		{"m=x z=x", "b=y c=x d=x m=x n=x", sample.Contents("y"), []api.Source{brought(0), keep(1), copied(1), keep(0), copied(1)}},
		{"a=x b=x", "a=x b=x c=x", nil, []api.Source{keep(0), keep(1), copied(0)}},
		{"b=x c=x", "b=x c=x d=x e=x", sample.Contents("x"), []api.Source{keep(0), keep(1), copied(0), copied(0)}},
		// what is new, once
		{"", "a=x", sample.Contents("x"), []api.Source{brought(0)}},
		{"", "a=x b=x c=x", sample.Contents("x"), []api.Source{brought(0), copied(0), copied(0)}},
		{"", "a=x b=y c=x d=y e=x", sample.Contents("y", "x"), []api.Source{brought(1), brought(0), copied(0), copied(1), copied(0)}},
		{"", "a=x b>a c=x", sample.Contents("x"), []api.Source{brought(0), copied(0)}},
		{"a=y", "a=x b=x", sample.Contents("x"), []api.Source{brought(0), copied(0)}},
		{"a/ b=y", "a=x b=y", sample.Contents("x"), []api.Source{brought(0), keep(0)}},
		// the first place of the stock
		{"", "a=x", sample.Contents("y", "x", "x", "y", "x"), []api.Source{brought(1)}},
		{"", "a=x b=y", sample.Contents("y", "x", "x", "y", "x"), []api.Source{brought(1), brought(0)}},
		{"", "a=xy b=x c=y", sample.Contents("", "y", "xyz", "x", "xy"), []api.Source{brought(4), brought(3), brought(1)}},
		// a content of no bytes is one, too
		{"", "a= b=", sample.Contents("x", "", ""), []api.Source{brought(1), copied(0)}},
		{"", "a=", [][]byte{nil}, []api.Source{brought(0)}},
		{"a=", "b= c=", nil, []api.Source{keep(0), copied(0)}},
		// the stock is not asked for what there is
		{"a=x", "b=x", sample.Contents("x"), []api.Source{keep(0)}},
		{"a=x", "a=x b=x", sample.Contents("x"), []api.Source{keep(0), copied(0)}},
	} {
		matches(t, x.s+" to "+x.t, sample.Tree(t, x.s), sample.Tree(t, x.t), x.stock, x.want...)
	}
}

// TestP1101Modes: modes, of files and directories, say nothing of where a file comes from.
func TestP1101Modes(t *testing.T) {
	a, b := sample.Tree(t, "a=x b=x c/"), sample.Tree(t, "b=x c/ d=x e=x")
	for i := range b.Files {
		b.Files[i].Mode = 100 * i
	}
	a.Nodes[2].Mode = 1
	matches(t, "other modes", a, b, nil, keep(1), keep(0), copied(0))
	a.Files[0].Mode, b.Files[1].Mode, b.Files[2].Mode = 0, 420, 420
	matches(t, "other modes", a, b, nil, keep(1), keep(0), copied(0))
}

func TestP1101Missing(t *testing.T) {
	for _, x := range []struct {
		s, t  string
		stock [][]byte
	}{
		{"", "a=x", nil},
		{"", "a=", nil},
		{"", "a=", sample.Contents("x")},
		{"", "a=x", sample.Contents("", "y", "xx", "X")},
		{"a=y", "a=x", sample.Contents("y")},
		{"a=x", "a=x b=y", nil},
		{"a=x b=y", "a=y b=x c=z", sample.Contents("x", "y")},
		{"", "a=z b=x", sample.Contents("x")},
		{"", "a=x b=x c=x d=z", sample.Contents("x")},
		{"x/", "x=x", nil},
	} {
		refuses(t, x.s+" to "+x.t, sample.Tree(t, x.s), sample.Tree(t, x.t), x.stock, api.ErrMissing)
	}
}

// wrong are trees that are not right, and what is wrong with them.
func wrong() map[api.Errno][]api.Tree {
	one := []api.File{{Data: []byte("x")}}
	return map[api.Errno][]api.Tree{
		api.ErrBound: {
			sample.Flat(api.MaxNodes + 1),
			sample.Flat(api.MaxLoose + 1),
			{Files: make([]api.File, api.MaxLoose+1)},
			{Nodes: []api.Node{{Path: "a"}}, Files: []api.File{{Data: make([]byte, api.MaxData+1)}}},
			{Nodes: make([]api.Node, api.MaxNodes+1)},
		},
		api.ErrTree: {
			{Files: one},
			{Nodes: []api.Node{{Path: "a"}}},
			{Nodes: []api.Node{{Path: "a"}, {Path: "b", File: 7}}, Files: one},
			{Nodes: []api.Node{{Path: "a", File: -2}}, Files: one},
			{Nodes: []api.Node{{Path: "b"}, {Path: "a"}}, Files: one},
			{Nodes: []api.Node{{Path: "a"}, {Path: "a"}}, Files: one},
			{Nodes: []api.Node{{Path: "a/b"}}, Files: one},
			{Nodes: []api.Node{{Path: "a", Mode: 1}}, Files: one},
			{Nodes: []api.Node{{Path: ""}}, Files: one},
			{Nodes: []api.Node{{Path: ".ts-0"}}, Files: one},
			{Nodes: []api.Node{{Path: "a", File: -1}, {Path: "a/.tsx", File: -1}}},
			{Nodes: []api.Node{{Path: "a", File: -1, Mode: 512}}},
			{Nodes: []api.Node{{Path: "a"}}, Files: []api.File{{Mode: -1}}},
		},
	}
}

// TestErrors: P1101, P1102: of all that is wrong the first thing is told: the source, the target, the stock, what is missing.
func TestErrors(t *testing.T) {
	a, b := sample.Tree(t, "a=x"), sample.Tree(t, "a=x b=y")
	good, short, long := sample.Contents("y"), sample.Contents("z"), sample.Contents("y", strings.Repeat("y", api.MaxData+1))
	for e, list := range wrong() {
		for _, x := range list {
			for _, stock := range [][][]byte{nil, good, short, long} {
				refuses(t, "a wrong source", x, b, stock, e)
				refuses(t, "a wrong target", a, x, stock, e)
				for f, others := range wrong() {
					for _, y := range others {
						refuses(t, "two wrong trees", x, y, stock, e)
						refuses(t, "two wrong trees", y, x, stock, f)
					}
				}
			}
			for _, y := range [][2]api.Tree{{x, a}, {a, x}, {x, x}} {
				got, f := Fresh(y[0], y[1])
				is(t, "Fresh", f, e)
				is(t, "how many beside the error", len(got), 0)
			}
		}
	}
	many := make([][]byte, 65536)
	heavy := append(slices.Repeat([][]byte{make([]byte, api.MaxData)}, 8), []byte("y"))
	for _, stock := range [][][]byte{long, many, heavy} {
		refuses(t, "a wrong stock", a, b, stock, api.ErrLong)
		refuses(t, "a wrong stock that is not needed", a, a, stock, api.ErrLong)
		refuses(t, "a wrong stock for nothing", api.Tree{}, api.Tree{}, stock, api.ErrLong)
	}
	refuses(t, "missing", a, b, short, api.ErrMissing)
	matches(t, "nothing wrong", a, b, good, keep(0), brought(0))
}

// TestP1101Great: trees and stocks at their bounds.
func TestP1101Great(t *testing.T) {
	var a, b api.Tree
	var want []api.Source
	for i := range api.MaxNodes {
		data := bytes.Repeat([]byte{byte(i), 1}, api.MaxData/2)
		a.Nodes = append(a.Nodes, api.Node{Path: strconv.Itoa(1000 + i), File: i})
		a.Files = append(a.Files, api.File{Data: data})
		b.Nodes = append(b.Nodes, api.Node{Path: strconv.Itoa(1000 + i), File: i})
		b.Files = append([]api.File{{Data: data}}, b.Files...)
		want = append([]api.Source{keep(i)}, want...)
	}
	matches(t, "all turned round", a, b, nil, want...)
	fresh(t, "all turned round", a, b)
	for i := range b.Files {
		b.Files[i].Data = slices.Clone(a.Files[0].Data)
		want[i] = copied(0)
	}
	want[0] = keep(0)
	matches(t, "all alike", a, b, nil, want...)
	for i := range a.Files {
		a.Files[i].Data = []byte("y")
	}
	want[0] = brought(65534)
	stock := make([][]byte, 65535)
	stock[65534] = b.Files[0].Data
	matches(t, "the last place", a, b, stock, want...)
	stock[65533] = bytes.Clone(stock[65534])
	want[0] = brought(65533)
	matches(t, "the last place but one", a, b, stock, want...)
	fresh(t, "all alike", a, b, string(b.Files[0].Data))
}

func TestP1102Fresh(t *testing.T) {
	for _, x := range []struct {
		s, t string
		want []string
	}{
		{"", "", nil},
		{"a=x", "", nil},
		{"a=x", "a=x", nil},
		{"a=x", "b=x c=x", nil},
		{"", "a=x", []string{"x"}},
		{"", "a=", []string{""}},
		{"a=", "b=", nil},
		{"a=x", "a=y", []string{"y"}},
		{"", "a=y b=x c=y d=x e=z", []string{"y", "x", "z"}},
		{"q=x", "a=y b=x c=y d=x e=z", []string{"y", "z"}},
		{"a/ a/q=x", "a=y b>a c=xx", []string{"y", "xx"}},
		{"a=xx b=y", "a=x b=yy c= d=xxx", []string{"x", "yy", "", "xxx"}},
	} {
		fresh(t, x.s+" to "+x.t, sample.Tree(t, x.s), sample.Tree(t, x.t), x.want...)
	}
}

// plain matches as the chapter's words tell it, without anything clever.
func plain(a, b api.Tree, stock [][]byte) ([]api.Source, api.Errno) {
	list := make([]api.Source, len(b.Files))
	same := func(x, y api.File) bool { return bytes.Equal(x.Data, y.Data) }
	free := func(from int) bool { return !slices.Contains(list, keep(from)) }
	for n, f := range b.Files {
		for _, p := range tree.Names(b, n) {
			if at := tree.Find(a, p); list[n].Kind == 0 && at >= 0 && a.Nodes[at].File >= 0 {
				if from := a.Nodes[at].File; same(a.Files[from], f) && free(from) {
					list[n] = keep(from)
				}
			}
		}
	}
	for n, f := range b.Files {
		for from, g := range a.Files {
			if list[n].Kind == 0 && same(f, g) && free(from) {
				list[n] = keep(from)
			}
		}
	}
	for _, kind := range []int{api.Keep, api.New} {
		for n, f := range b.Files {
			for m, g := range b.Files {
				if list[n].Kind == 0 && list[m].Kind == kind && same(f, g) {
					list[n] = copied(m)
				}
			}
			if list[n].Kind == 0 && kind == api.New {
				at := slices.IndexFunc(stock, func(c []byte) bool { return bytes.Equal(c, f.Data) })
				if at < 0 {
					return nil, api.ErrMissing
				}
				list[n] = brought(at)
			}
		}
	}
	return list, api.OK
}

// sound holds Match and Fresh against plain, and against what follows by P1103.
func sound(t *testing.T, a, b api.Tree, stock [][]byte) {
	t.Helper()
	got, e := Match(a, b, stock)
	want, f := plain(a, b, stock)
	if e != f || !slices.Equal(got, want) {
		t.Fatalf("%v to %v with %q: Match: %v, %v, want %v, %v", a, b, stock, got, e, want, f)
	}
	news, f := Fresh(a, b)
	is(t, "Fresh", f, api.OK)
	has := sample.Texts(stock)
	lacks := slices.ContainsFunc(news, func(c []byte) bool { return !slices.Contains(has, string(c)) })
	is(t, "ErrMissing where something fresh is missing", e == api.ErrMissing, lacks)
	if e != api.OK {
		return
	}
	var written []string
	taken := map[int]int{}
	kept := map[string]int{}
	for n, x := range got {
		data := string(b.Files[n].Data)
		switch x.Kind {
		case api.Keep:
			is(t, "what is kept", string(a.Files[x.File].Data), data)
			taken[x.File]++
			kept[data]++
		case api.Copy:
			is(t, "what is copied", string(b.Files[x.File].Data), data)
			if got[x.File].Kind == api.Copy {
				t.Error("a copy of a copy")
			}
		case api.New:
			is(t, "what is new", string(stock[x.Ref]), data)
			written = append(written, data)
		}
	}
	if !slices.Equal(written, sample.Texts(news)) {
		t.Errorf("new: %q, fresh: %q", written, news)
	}
	for from, count := range taken {
		is(t, "how often the file "+strconv.Itoa(from)+" is kept", count, 1)
	}
	for _, f := range a.Files {
		data := string(f.Data)
		if slices.ContainsFunc(b.Files, func(g api.File) bool { return string(g.Data) == data }) && kept[data] == 0 {
			t.Errorf("%q, which both have, is not kept", data)
		}
	}
	if t.Failed() {
		t.Fatalf("%v to %v with %q: %v", a, b, stock, got)
	}
}

// small are all trees of the names a, b, c in the root, with files of x, y or nothing.
func small(t *testing.T) []api.Tree {
	t.Helper()
	texts := []string{"", "x", "y"}
	var list []api.Tree
	seen := map[string]bool{}
	for code := range 5 * 5 * 5 * 27 {
		digit := func(n int) int {
			d := code % n
			code /= n
			return d
		}
		var x api.Tree
		for _, p := range []string{"a", "b", "c"} {
			switch d := digit(5); d {
			case 3:
			case 4:
				x.Nodes = append(x.Nodes, api.Node{Path: p, File: -1})
			default:
				x.Nodes = append(x.Nodes, api.Node{Path: p, File: d})
			}
		}
		for range 3 {
			x.Files = append(x.Files, api.File{Data: []byte(texts[digit(3)])})
		}
		x, e := tree.Canon(x)
		is(t, "Canon", e, api.OK)
		b, _ := tree.Bytes(x)
		if !seen[string(b)] {
			seen[string(b)] = true
			list = append(list, x)
		}
	}
	return list
}

func TestP1103All(t *testing.T) {
	list := small(t)
	for _, a := range list {
		for _, b := range list {
			sound(t, a, b, nil)
			sound(t, a, b, sample.Contents("y", "", "y", "x"))
		}
	}
	for i, a := range list {
		sound(t, a, list[len(list)-1-i], sample.Contents("x", "x"))
	}
}

// chance is a tree that is grown by chance.
func chance(t *testing.T, r *rand.Rand) api.Tree {
	t.Helper()
	var x api.Tree
	dirs := []string{""}
	for range r.Intn(5) {
		p := dirs[r.Intn(len(dirs))] + string(rune('p'+r.Intn(6)))
		if !slices.Contains(dirs, p+"/") && strings.Count(p, "/") < 4 {
			x.Nodes = append(x.Nodes, api.Node{Path: p, File: -1, Mode: r.Intn(512)})
			dirs = append(dirs, p+"/")
		}
	}
	for range r.Intn(9) {
		x.Files = append(x.Files, api.File{Mode: r.Intn(512), Data: bytes.Repeat([]byte{byte('x' + r.Intn(2))}, r.Intn(3))})
	}
	used := map[string]bool{}
	for range 2 * len(x.Files) {
		p := dirs[r.Intn(len(dirs))] + string(rune('a'+r.Intn(8)))
		if !used[p] {
			used[p] = true
			x.Nodes = append(x.Nodes, api.Node{Path: p, File: r.Intn(len(x.Files))})
		}
	}
	c, e := tree.Canon(x)
	if e != api.OK || tree.Check(c) != api.OK {
		t.Fatalf("%v: %v", x, e)
	}
	return c
}

func TestP1103Chance(t *testing.T) {
	r := rand.New(rand.NewSource(11))
	for range 4000 {
		a, b := chance(t, r), chance(t, r)
		stock := sample.Contents("yy", "", "x", "y", "x", "xx", "yy")
		r.Shuffle(len(stock), func(i, j int) { stock[i], stock[j] = stock[j], stock[i] })
		sound(t, a, b, stock)
		sound(t, a, b, stock[:r.Intn(len(stock)+1)])
		sound(t, a, a, nil)
	}
}

// TestP1104Stays: what is handed in stays, also where what was answered is turned; what was answered stays where what was handed in is turned.
func TestP1104Stays(t *testing.T) {
	r := rand.New(rand.NewSource(12))
	for range 300 {
		a, b := sample.Roomy(chance(t, r)), sample.Roomy(chance(t, r))
		stock := [][]byte{sample.Room([]byte("yy")), sample.Room([]byte("x")), sample.Room(nil), sample.Room([]byte("xx")), sample.Room([]byte("y")), []byte("spare")}[:5]
		wasA, wasB := sample.Whole(a), sample.Whole(b)
		list, e := Match(a, b, stock)
		is(t, "Match", e, api.OK)
		news, _ := Fresh(a, b)
		texts := sample.Texts(news)
		clear(list[:cap(list)])
		for _, c := range news {
			clear(c[:cap(c)])
		}
		for i, want := range []string{"yyrrr", "xrr", "r", "xxrrr", "yrr", "spare"} {
			c := stock[:6][i]
			is(t, "the stock", string(c[:min(cap(c), len(want))]), want)
		}
		if !reflect.DeepEqual(sample.Whole(a), wasA) || !reflect.DeepEqual(sample.Whole(b), wasB) {
			t.Fatalf("%v to %v, was %v to %v", sample.Whole(a), sample.Whole(b), wasA, wasB)
		}
		list, _ = Match(a, b, stock)
		was := slices.Clone(list)
		news, _ = Fresh(a, b)
		is(t, "told anew", strings.Join(sample.Texts(news), ","), strings.Join(texts, ","))
		for _, x := range []api.Tree{a, b} {
			for _, f := range x.Files {
				clear(f.Data[:cap(f.Data)])
			}
			clear(x.Nodes)
			clear(x.Files)
		}
		clear(stock)
		is(t, "what was told", strings.Join(sample.Texts(news), ","), strings.Join(texts, ","))
		is(t, "what was told", slices.Equal(list, was), true)
	}
}

// TestP1104Own: each list of an answer is its own.
func TestP1104Own(t *testing.T) {
	a, b := sample.Tree(t, ""), sample.Tree(t, "a=xyz b=xyz c=yz d= e=z")
	one, _ := Fresh(a, b)
	two, _ := Fresh(a, b)
	for i := range one {
		_ = append(one[i], "and more, that runs on and on"...)
		one[i] = one[i][:cap(one[i])]
		for j := range one[i] {
			one[i][j] = '!'
		}
		want := []string{"xyz", "yz", "", "z"}
		is(t, "the other answer", strings.Join(sample.Texts(two), ","), strings.Join(want, ","))
		is(t, "the other lists", strings.Join(sample.Texts(one[i+1:]), ","), strings.Join(want[i+1:], ","))
	}
	fresh(t, "told anew", a, b, "xyz", "yz", "", "z")
}

func TestExamples(t *testing.T) {
	a, b := sample.Tree(t, "a=x b=y"), sample.Tree(t, "a=y c=x d=x e=z f=z")
	matches(t, "the chapter's", a, b, sample.Contents("z"), keep(1), keep(0), copied(1), brought(0), copied(3))
	fresh(t, "the chapter's", a, b, "z")
	refuses(t, "without the stock", a, b, nil, api.ErrMissing)
}
