package tree

import (
	"bytes"
	"crypto/sha256"
	"math"
	"reflect"
	"regexp"
	"slices"
	"strconv"
	"strings"
	"testing"

	"shunt/api"
)

// is holds what a call answered against what it should have.
func is[T comparable](t *testing.T, what string, got, want T) {
	t.Helper()
	if got != want {
		t.Errorf("%s: %v, want %v", what, got, want)
	}
}

func list(t *testing.T, what string, got []string, want ...string) {
	t.Helper()
	if !slices.Equal(got, want) {
		t.Errorf("%s: %q, want %q", what, got, want)
	}
}

func folder(p string, mode int) api.Node { return api.Node{Path: p, File: -1, Mode: mode} }

func name(p string, file int) api.Node { return api.Node{Path: p, File: file} }

func file(mode, size int) api.File {
	return api.File{Mode: mode, Data: bytes.Repeat([]byte{'x'}, size)}
}

func files(n int) []api.File {
	l := make([]api.File, n)
	for i := range l {
		l[i] = file(i%512, i%3)
	}
	return l
}

// flat are so many names of the root, all directories, or each a file of its own.
func flat(n int, dirs bool) api.Tree {
	var t api.Tree
	for i := range n {
		p := "n" + strconv.Itoa(1000+i)
		if dirs {
			t.Nodes = append(t.Nodes, folder(p, 493))
			continue
		}
		t.Nodes = append(t.Nodes, name(p, i))
		t.Files = append(t.Files, file(420, i%7))
	}
	return t
}

// sample is the tree of the chapter's examples.
func sample() api.Tree {
	return api.Tree{Nodes: []api.Node{folder("a", 493), name("a/x", 0), name("b", 0)}, Files: []api.File{file(420, 600)}}
}

// loose are trees that are right but for kept names and how many nodes they have.
func loose() map[string]api.Tree {
	deep := api.Tree{}
	p := ""
	for _, n := range []string{"a", "b", "c", "d", "e", "f"} {
		p = strings.TrimPrefix(p+"/"+n, "/")
		deep.Nodes = append(deep.Nodes, folder(p, 0))
	}
	full := strings.Repeat("n", 14)
	return map[string]api.Tree{
		"nothing":    {},
		"empty":      {Nodes: []api.Node{}, Files: []api.File{}},
		"sample":     sample(),
		"deep":       deep,
		"one file":   {Nodes: []api.Node{name("f", 0)}, Files: []api.File{file(0, 0)}},
		"no bytes":   {Nodes: []api.Node{name("f", 0), name("g", 1)}, Files: []api.File{{Mode: 1}, {Mode: 1, Data: []byte{}}}},
		"modes":      {Nodes: []api.Node{folder("a", 0), folder("b", 511), name("c", 0), name("d", 1)}, Files: []api.File{file(0, 1), file(511, 1)}},
		"greatest":   {Nodes: []api.Node{name("f", 0)}, Files: []api.File{file(1, api.MaxData)}},
		"alike":      {Nodes: []api.Node{name("a", 0), name("b", 1)}, Files: []api.File{file(420, 5), file(420, 5)}},
		"linked":     {Nodes: []api.Node{name("a", 0), name("b", 1), name("c", 0), name("d", 2), name("e", 1)}, Files: []api.File{file(1, 1), file(2, 2), file(3, 3)}},
		"between":    {Nodes: []api.Node{folder("a", 493), folder("a-", 1), name("a-/x", 0), name("a.x", 1), folder("a/x", 2), name("a/x/y", 2), name("a0", 0), name("a_", 1)}, Files: files(3)},
		"dots":       {Nodes: []api.Node{folder("-", 1), name("...", 0), folder("..a", 1), name("..a/...", 1), name("0", 1), name("_", 0)}, Files: files(2)},
		"long":       {Nodes: []api.Node{folder(full, 1), name(full+"/"+full, 0)}, Files: files(1)},
		"kept":       {Nodes: []api.Node{name(".ts-0", 0)}, Files: files(1)},
		"kept below": {Nodes: []api.Node{folder("a", 1), folder("a/.tsx", 2), name("a/.tsx/y", 0)}, Files: files(1)},
		"128 dirs":   flat(128, true),
		"128 files":  flat(128, false),
		"129 dirs":   flat(129, true),
		"256 dirs":   flat(256, true),
		"256 files":  flat(256, false),
	}
}

// wrong are trees that are none, within the limits.
func wrong() map[string]api.Tree {
	one := files(1)
	m := map[string]api.Tree{
		"twice":             {Nodes: []api.Node{folder("a", 1), folder("a", 1)}},
		"twice, two kinds":  {Nodes: []api.Node{folder("a", 1), name("a", 0)}, Files: one},
		"twice, one file":   {Nodes: []api.Node{name("a", 0), name("a", 0)}, Files: one},
		"falling":           {Nodes: []api.Node{folder("b", 1), folder("a", 1)}},
		"kid ahead":         {Nodes: []api.Node{folder("a/b", 1), folder("a", 1)}},
		"by names":          {Nodes: []api.Node{folder("a", 1), name("a/x", 0), folder("a-", 1)}, Files: one},
		"by capitals":       {Nodes: []api.Node{name("a", 0), name("_", 0)}, Files: one},
		"no parent":         {Nodes: []api.Node{name("a/x", 0), name("b", 0)}, Files: one},
		"no parent, deep":   {Nodes: []api.Node{folder("a", 1), name("a/b/c", 0)}, Files: one},
		"parent alike":      {Nodes: []api.Node{folder("a", 1), name("a", 0), name("ab/c", 0)}, Files: one},
		"in a file":         {Nodes: []api.Node{name("a", 0), name("a/x", 0)}, Files: one},
		"in a file, dir":    {Nodes: []api.Node{name("a", 0), folder("a/x", 1)}, Files: one},
		"dir's mode":        {Nodes: []api.Node{folder("a", 512)}},
		"dir's mode below":  {Nodes: []api.Node{folder("a", -1)}},
		"dir's mode far":    {Nodes: []api.Node{folder("a", 65536)}},
		"file's mode":       {Nodes: []api.Node{name("a", 0)}, Files: []api.File{file(512, 1)}},
		"file's mode below": {Nodes: []api.Node{name("a", 0)}, Files: []api.File{file(-1, 1)}},
		"later file's mode": {Nodes: []api.Node{name("a", 0), name("b", 1)}, Files: []api.File{file(1, 1), file(math.MaxInt, 1)}},
		"name's mode":       {Nodes: []api.Node{{Path: "a", File: 0, Mode: 420}}, Files: one},
		"name's mode below": {Nodes: []api.Node{{Path: "a", File: 0, Mode: -1}}, Files: one},
		"no file":           {Nodes: []api.Node{name("a", 0)}},
		"no file, later":    {Nodes: []api.Node{name("a", 0), name("b", 1)}, Files: one},
		"no file below":     {Nodes: []api.Node{name("a", -2)}},
		"no file far":       {Nodes: []api.Node{name("a", math.MaxInt)}, Files: one},
		"no file far below": {Nodes: []api.Node{name("a", math.MinInt)}, Files: one},
		"unnamed":           {Files: one},
		"last unnamed":      {Nodes: []api.Node{name("a", 0)}, Files: files(2)},
		"first unnamed":     {Nodes: []api.Node{name("a", 1)}, Files: files(2)},
		"middle unnamed":    {Nodes: []api.Node{name("a", 0), name("b", 2)}, Files: files(3)},
		"numbers turned":    {Nodes: []api.Node{name("a", 1), name("b", 0)}, Files: files(2)},
		"numbers with gaps": {Nodes: []api.Node{name("a", 0), name("b", 2), name("c", 1)}, Files: files(3)},
	}
	for _, p := range []string{"", "/", "/a", "a/", "a//b", ".", "..", "a/..", "A", "a b", "a\x00", "\xff", "\u00e4", "a/b/c/d/e/f/g", strings.Repeat("n", 15), strings.Repeat("n", 300), strings.Repeat("n", 1000000)} {
		m["the path "+strconv.QuoteToASCII(p[:min(len(p), 20)])+strconv.Itoa(len(p))] = api.Tree{Nodes: []api.Node{folder(p, 1)}}
		m["below a, the path "+strconv.QuoteToASCII(p[:min(len(p), 20)])+strconv.Itoa(len(p))] = api.Tree{Nodes: []api.Node{folder("a", 1), name("a/"+p, 0)}, Files: one}
	}
	return m
}

// great are trees that are above a limit, each also wrong otherwise.
func great() map[string]api.Tree {
	bad := flat(257, true)
	bad.Nodes[3] = name("", -7)
	return map[string]api.Tree{
		"257 nodes":                {Nodes: flat(257, true).Nodes},
		"257 nodes, wrong":         bad,
		"257 files":                {Files: files(257)},
		"257 files of 1 node":      {Nodes: []api.Node{name("a", 0)}, Files: files(257)},
		"a great file":             {Nodes: []api.Node{name("a", 0)}, Files: []api.File{file(1, api.MaxData+1)}},
		"a great file, wrong":      {Nodes: []api.Node{name("/", 0)}, Files: []api.File{file(-1, api.MaxData+1)}},
		"a great file, unnamed":    {Files: []api.File{file(1, api.MaxData+1)}},
		"a great file, last of 2":  {Nodes: []api.Node{name("a", 0)}, Files: []api.File{file(1, 1), file(1, api.MaxData+1)}},
		"257 nodes, each the same": {Nodes: slices.Repeat([]api.Node{folder("a", 1)}, 257)},
	}
}

// refused holds what all calls answer of a tree that is not loose.
func refused(t *testing.T, what string, x api.Tree, e api.Errno) {
	t.Helper()
	is(t, what+": Loose", Loose(x), e)
	p := "a"
	if len(x.Nodes) > 0 {
		p = x.Nodes[0].Path
	}
	is(t, what+": Find", Find(x, p), -1)
	list(t, what+": Names", Names(x, 0))
	list(t, what+": Kids", Kids(x, ""))
	w, f := Weight(x)
	is(t, what+": Weight", w, 0)
	is(t, what+": Weight", f, e)
	b, f := Bytes(x)
	is(t, what+": Bytes", len(b), 0)
	is(t, what+": Bytes", f, e)
	d, f := Print(x)
	is(t, what+": Print", d, api.Digest{})
	is(t, what+": Print", f, e)
	is(t, what+": Same", Same(x, x), false)
	is(t, what+": Same", Same(x, sample()), false)
	is(t, what+": Same", Same(sample(), x), false)
}

func TestP601Loose(t *testing.T) {
	for what, x := range loose() {
		is(t, what, Loose(x), api.OK)
	}
	for what, x := range wrong() {
		refused(t, what, x, api.ErrTree)
		is(t, what+": Check", Check(x), api.ErrTree)
	}
	for what, x := range great() {
		refused(t, what, x, api.ErrBound)
		is(t, what+": Check", Check(x), api.ErrBound)
	}
}

func TestP601Check(t *testing.T) {
	for what, x := range loose() {
		want := api.OK
		switch {
		case len(x.Nodes) > api.MaxNodes:
			want = api.ErrBound
		case strings.HasPrefix(what, "kept"):
			want = api.ErrTree
		}
		is(t, what, Check(x), want)
	}
	bad := flat(129, true)
	bad.Nodes[5] = name("/", 9)
	is(t, "too many nodes, wrong", Check(bad), api.ErrBound)
	bad = flat(128, true)
	bad.Nodes[5] = name("/", 9)
	is(t, "as many nodes as may be, wrong", Check(bad), api.ErrTree)
	many := flat(128, false)
	many.Files = append(many.Files, files(128)...)
	is(t, "more files than nodes", Check(many), api.ErrTree)
	many.Files = append(many.Files, files(1)...)
	is(t, "too many files", Check(many), api.ErrBound)
	for p, want := range map[string]api.Errno{".ts": api.ErrTree, ".tsx": api.ErrTree, ".ts-journal": api.ErrTree, "a/.ts": api.ErrTree, ".t": api.OK, "..ts": api.OK, "a.ts": api.OK, "a/x.ts": api.OK, "ts": api.OK} {
		x := api.Tree{Nodes: []api.Node{folder("a", 1), folder(p, 1)}}
		slices.SortFunc(x.Nodes, func(a, b api.Node) int { return strings.Compare(a.Path, b.Path) })
		is(t, p, Loose(x), api.OK)
		is(t, p, Check(x), want)
	}
}

var rightPath = regexp.MustCompile(`^[a-z0-9._-]{1,14}(/[a-z0-9._-]{1,14}){0,5}$`)

// isLoose tells whether a small tree is loose, by the words of the document one by one.
func isLoose(x api.Tree) bool {
	var order []int
	for i, n := range x.Nodes {
		up := ""
		if k := strings.LastIndex(n.Path, "/"); k >= 0 {
			up = n.Path[:k]
		}
		at := slices.IndexFunc(x.Nodes, func(m api.Node) bool { return m.Path == up && m.File == -1 })
		switch {
		case !rightPath.MatchString(n.Path), i > 0 && strings.Compare(x.Nodes[i-1].Path, n.Path) >= 0, up != "" && at < 0:
			return false
		case n.File < -1 || n.File >= len(x.Files), n.File >= 0 && n.Mode != 0, n.Mode < 0 || n.Mode > 511:
			return false
		}
		if n.File >= 0 && !slices.Contains(order, n.File) {
			order = append(order, n.File)
		}
	}
	for _, f := range x.Files {
		if f.Mode < 0 || f.Mode > 511 {
			return false
		}
	}
	return len(order) == len(x.Files) && slices.IsSorted(order)
}

// nodesOf are the nodes of these paths, as directories and as names of these files, with right and wrong modes.
func nodesOf(paths []string, files, modes []int) []api.Node {
	var l []api.Node
	for _, p := range paths {
		for _, f := range files {
			for _, m := range modes {
				l = append(l, api.Node{Path: p, File: f, Mode: m})
			}
		}
	}
	return l
}

// all calls f with all trees of at most so many of these nodes, and few files.
func all(nodes []api.Node, most int, f func(api.Tree)) {
	filesets := [][]api.File{nil, {file(7, 3)}, {file(7, 3), file(511, 0)}, {file(0, 1), file(512, 1)}, {file(1, 1), file(2, 2), file(3, 3)}}
	var grow func(have []api.Node)
	grow = func(have []api.Node) {
		for _, fs := range filesets {
			f(api.Tree{Nodes: have, Files: fs})
		}
		if len(have) == most {
			return
		}
		for _, n := range nodes {
			grow(append(slices.Clone(have), n))
		}
	}
	grow(nil)
}

// TestP601All holds all small trees against the document's words.
func TestP601All(t *testing.T) {
	found := 0
	look := func(x api.Tree) {
		want := api.ErrTree
		if isLoose(x) {
			want, found = api.OK, found+1
		}
		if got := Loose(x); got != want {
			t.Fatalf("%v: %v, want %v", x, got, want)
		}
	}
	all(nodesOf([]string{"", "a", "a-", "a/b", "b", "A"}, []int{-2, -1, 0, 1, 2}, []int{-1, 0, 511, 512}), 2, look)
	all(nodesOf([]string{"a", "a/b", "a0"}, []int{-1, 0, 1, 2}, []int{0, 1}), 3, look)
	all(nodesOf([]string{"a", "a/b", "b"}, []int{-1, 0, 1, 2}, []int{0}), 4, look)
	if found < 100 {
		t.Errorf("only %d loose trees", found)
	}
}

func TestP602Find(t *testing.T) {
	for what, x := range loose() {
		for i, n := range x.Nodes {
			is(t, what+": "+n.Path, Find(x, n.Path), i)
			for _, p := range []string{n.Path + "/", n.Path + "/zz", "/" + n.Path, n.Path + "0", strings.ToUpper(n.Path) + "A", n.Path + "\x00"} {
				is(t, what+": "+p, Find(x, p), slices.IndexFunc(x.Nodes, func(n api.Node) bool { return n.Path == p }))
			}
		}
		is(t, what+", the root", Find(x, ""), -1)
		is(t, what+", no path", Find(x, "/"), -1)
	}
}

func TestP602Names(t *testing.T) {
	x := loose()["linked"]
	list(t, "0", Names(x, 0), "a", "c")
	list(t, "1", Names(x, 1), "b", "e")
	list(t, "2", Names(x, 2), "d")
	for what, x := range loose() {
		for _, f := range []int{-1, -2, len(x.Files), len(x.Files) + 1, math.MaxInt, math.MinInt} {
			list(t, what+", no file "+strconv.Itoa(f), Names(x, f))
		}
		seen := 0
		for f := range x.Files {
			seen += len(Names(x, f))
			for _, p := range Names(x, f) {
				is(t, what+": "+p, x.Nodes[Find(x, p)].File, f)
			}
			is(t, what+", rising", slices.IsSorted(Names(x, f)), true)
		}
		for _, n := range x.Nodes {
			if n.File < 0 {
				seen++
			}
		}
		is(t, what+", all", seen, len(x.Nodes))
	}
}

func TestP602Kids(t *testing.T) {
	x := loose()["between"]
	list(t, "the root", Kids(x, ""), "a", "a-", "a.x", "a0", "a_")
	list(t, "a", Kids(x, "a"), "a/x")
	list(t, "a-", Kids(x, "a-"), "a-/x")
	list(t, "a/x", Kids(x, "a/x"), "a/x/y")
	for _, p := range []string{"a/x/y", "a0", "b", "/", "a/", "/a", "A", "a//x", ".", strings.Repeat("n", 1000)} {
		list(t, p, Kids(x, p))
	}
	for what, x := range loose() {
		seen := len(Kids(x, ""))
		for _, n := range x.Nodes {
			kids := Kids(x, n.Path)
			if n.File >= 0 {
				list(t, what+", of a file", kids)
			}
			for _, k := range kids {
				is(t, what+": "+k, strings.HasPrefix(k, n.Path+"/") && !strings.Contains(k[len(n.Path)+1:], "/"), true)
			}
			is(t, what+", rising", slices.IsSorted(kids), true)
			seen += len(kids)
		}
		is(t, what+", each once", seen, len(x.Nodes))
	}
}

func weight(t *testing.T, what string, x api.Tree, want complex128) {
	t.Helper()
	w, e := Weight(x)
	is(t, what, w, want)
	is(t, what, e, api.OK)
}

func TestP603Files(t *testing.T) {
	for size, blocks := range map[int]int{0: 0, 1: 1, 511: 1, 512: 1, 513: 2, 1024: 2, 1025: 3, 3584: 7, 3585: 8, 4096: 8, 4097: 10, 4608: 10, 4609: 11, 5000: 11, 7680: 16, 7681: 17, 8192: 17} {
		x := api.Tree{Nodes: []api.Node{name("f", 0)}, Files: []api.File{file(1, size)}}
		weight(t, strconv.Itoa(size)+" bytes", x, complex(float64(1+blocks), 2))
		x.Nodes = append(x.Nodes, name("g", 0), name("h", 0))
		weight(t, strconv.Itoa(size)+" bytes, linked", x, complex(float64(1+blocks), 2))
		x.Nodes[1].File, x.Nodes[2].File = 1, 2
		x.Files = append(x.Files, x.Files[0], x.Files[0])
		weight(t, strconv.Itoa(size)+" bytes, three alike", x, complex(float64(1+3*blocks), 4))
	}
}

func TestP603Directories(t *testing.T) {
	weight(t, "nothing", api.Tree{}, 1+1i)
	for n, blocks := range map[int]int{0: 1, 1: 1, 15: 1, 16: 1, 17: 2, 32: 2, 33: 3, 48: 3, 49: 4, 255: 16, 256: 16} {
		weight(t, strconv.Itoa(n)+" directories", flat(n, true), complex(float64(blocks+n), float64(1+n)))
	}
	for n, blocks := range map[int]int{0: 1, 1: 1, 16: 1, 17: 2, 32: 2, 33: 3, 255: 16} {
		// The directory and its names only; the file has no bytes.
		x := api.Tree{Nodes: []api.Node{folder("a", 1)}}
		for i := range n {
			x.Nodes = append(x.Nodes, name("a/"+strconv.Itoa(1000+i), 0))
			x.Files = []api.File{file(1, 0)}
		}
		weight(t, strconv.Itoa(n)+" names", x, complex(float64(1+blocks), float64(2+len(x.Files))))
	}
	// What is below is no kid: 17 nodes, 16 of them in a, of which 15 are names.
	x := api.Tree{Nodes: []api.Node{folder("a", 1), folder("a/0", 1)}, Files: []api.File{file(1, 1)}}
	for i := range 15 {
		x.Nodes = append(x.Nodes, name("a/1"+strconv.Itoa(100+i), 0))
	}
	weight(t, "16 in a", x, 4+4i)
	x.Nodes = slices.Insert(x.Nodes, 2, name("a/0/x", 0))
	weight(t, "16 in a, one below", x, 4+4i)
	x.Nodes = append(x.Nodes, name("a/2", 0))
	weight(t, "17 in a, one below", x, 5+4i)
	weight(t, "deep", loose()["deep"], 7+7i)
	weight(t, "between", loose()["between"], 4+2+7i)
}

func TestP604Bytes(t *testing.T) {
	const full = "nnnnnnnnnnnnnn"
	long := full + strings.Repeat("/"+full, 5)
	deep := api.Tree{}
	for i := range 6 {
		deep.Nodes = append(deep.Nodes, folder(long[:14+15*i], 300))
	}
	deep.Nodes[5] = name(long, 0)
	deep.Files = []api.File{{Mode: 511, Data: bytes.Repeat([]byte{1, 2, 3, 255}, 2048)}}
	want := []byte{6, 0}
	for i := range 5 {
		want = append(want, byte(14+15*i))
		want = append(want, long[:14+15*i]...)
		want = append(want, 0, 0, 44, 1)
	}
	want = append(append(append(want, 89), long...), 1, 0, 0, 0)
	want = append(append(want, 1, 0, 255, 1, 0, 32), deep.Files[0].Data...)
	for _, x := range []struct {
		what string
		tree api.Tree
		want []byte
	}{
		{"nothing", api.Tree{}, []byte{0, 0, 0, 0}},
		{"a directory", api.Tree{Nodes: []api.Node{folder("ab", 493)}}, []byte{1, 0, 2, 'a', 'b', 0, 0, 237, 1, 0, 0}},
		{"a file", api.Tree{Nodes: []api.Node{name("z", 0)}, Files: []api.File{{Mode: 258, Data: []byte("hi")}}}, []byte{1, 0, 1, 'z', 1, 0, 0, 0, 1, 0, 2, 1, 2, 0, 'h', 'i'}},
		{"no bytes", api.Tree{Nodes: []api.Node{name("z", 0)}, Files: []api.File{{}}}, []byte{1, 0, 1, 'z', 1, 0, 0, 0, 1, 0, 0, 0, 0, 0}},
		{"two files", api.Tree{Nodes: []api.Node{folder("a", 7), name("a/x", 0), name("b", 1), name("c", 0)}, Files: []api.File{{Mode: 1, Data: []byte{9}}, {Mode: 2, Data: []byte{8, 7}}}},
			[]byte{4, 0, 1, 'a', 0, 0, 7, 0, 3, 'a', '/', 'x', 1, 0, 0, 0, 1, 'b', 2, 0, 0, 0, 1, 'c', 1, 0, 0, 0, 2, 0, 1, 0, 1, 0, 9, 2, 0, 2, 0, 8, 7}},
		{"deep", deep, want},
	} {
		b, e := Bytes(x.tree)
		is(t, x.what, e, api.OK)
		if !bytes.Equal(b, x.want) {
			t.Errorf("%s: %v, want %v", x.what, b, x.want)
		}
	}
	b, _ := Bytes(flat(256, false))
	is(t, "256 nodes", [2]byte(b), [2]byte{0, 1})
	// The last node is file 255, which is written as 256.
	is(t, "256 files", [8]byte(b[2+255*10+6:]), [8]byte{0, 1, 0, 0, 0, 1, 164, 1})
}

func TestP604Print(t *testing.T) {
	for what, x := range loose() {
		b, e := Bytes(x)
		is(t, what, e, api.OK)
		d, e := Print(x)
		is(t, what, e, api.OK)
		is(t, what, d, api.Digest(sha256.Sum256(b)))
	}
}

// near are trees that differ from the sample in one thing.
func near() []api.Tree {
	var l []api.Tree
	for _, turn := range []func(x *api.Tree){
		func(x *api.Tree) { x.Nodes[0].Mode = 492 },
		func(x *api.Tree) { x.Nodes[1].Path = "a/y" },
		func(x *api.Tree) { x.Nodes[2].Path = "c" },
		func(x *api.Tree) { x.Nodes = x.Nodes[:2] },
		func(x *api.Tree) { x.Nodes = append(x.Nodes, name("c", 0)) },
		func(x *api.Tree) { x.Nodes = append(x.Nodes, folder("c", 0)) },
		func(x *api.Tree) { x.Nodes[2] = folder("b", 0) },
		func(x *api.Tree) { x.Nodes[2].File = 1; x.Files = append(x.Files, x.Files[0]) },
		func(x *api.Tree) { x.Files[0].Mode = 421 },
		func(x *api.Tree) { x.Files[0].Data = x.Files[0].Data[:599] },
		func(x *api.Tree) { x.Files[0].Data[599] = 'y' },
		func(x *api.Tree) { x.Files[0].Data = nil },
	} {
		x := sample()
		turn(&x)
		l = append(l, x)
	}
	return l
}

func TestP605Same(t *testing.T) {
	again := loose()
	for what, x := range loose() {
		for other, y := range again {
			both := what == other || what == "nothing" && other == "empty" || what == "empty" && other == "nothing"
			is(t, what+" and "+other, Same(x, y), both)
		}
	}
	l := append(near(), sample())
	for i, x := range l {
		is(t, "loose", Loose(x), api.OK)
		for k, y := range l {
			is(t, strconv.Itoa(i)+" and "+strconv.Itoa(k), Same(x, y), i == k)
		}
	}
	nilData := api.Tree{Nodes: []api.Node{name("a", 0)}, Files: []api.File{{}}}
	emptyData := api.Tree{Nodes: []api.Node{name("a", 0)}, Files: []api.File{{Data: []byte{}}}}
	is(t, "nil and no bytes", Same(nilData, emptyData) && Same(emptyData, nilData), true)
}

// canon holds Canon's answer against the tree that is wanted.
func canon(t *testing.T, what string, x, want api.Tree) {
	t.Helper()
	c, e := Canon(x)
	is(t, what, e, api.OK)
	if !Same(c, want) {
		t.Errorf("%s: %v, want %v", what, c, want)
	}
}

func noCanon(t *testing.T, what string, x api.Tree, want api.Errno) {
	t.Helper()
	c, e := Canon(x)
	is(t, what, e, want)
	is(t, what, len(c.Nodes)+len(c.Files), 0)
}

func TestP606Canon(t *testing.T) {
	x := api.Tree{Nodes: []api.Node{name("b", 1), folder("a", 493), name("a/x", 1)}, Files: []api.File{file(7, 7), file(420, 600)}}
	canon(t, "the chapter's", x, sample())
	x = api.Tree{Nodes: []api.Node{name("d", 0), name("c", 3), name("b", 4), name("a", 3), name("e", 0)}, Files: files(6)}
	l := files(6)
	canon(t, "turned", x, api.Tree{Nodes: []api.Node{name("a", 0), name("b", 1), name("c", 0), name("d", 2), name("e", 2)}, Files: []api.File{l[3], l[4], l[0]}})
	x = api.Tree{Nodes: []api.Node{name("a/b/c", 1), folder("a/b", 3), folder("a-", 2), folder("a", 1)}, Files: []api.File{file(99999, 3), file(1, 1), file(-5, 2)}}
	canon(t, "what is unnamed is not looked at", x, api.Tree{Nodes: []api.Node{folder("a", 1), folder("a-", 2), folder("a/b", 3), name("a/b/c", 0)}, Files: []api.File{file(1, 1)}})
	canon(t, "files only", api.Tree{Files: files(256)}, api.Tree{})
	kept := api.Tree{Nodes: []api.Node{folder("a", 1), name(".ts-0", 0)}, Files: files(1)}
	canon(t, "kept", kept, api.Tree{Nodes: []api.Node{name(".ts-0", 0), folder("a", 1)}, Files: files(1)})
}

// TestP606Turned puts loose trees out of order and back.
func TestP606Turned(t *testing.T) {
	for what, want := range loose() {
		for by := range 5 {
			x := api.Tree{Nodes: slices.Clone(want.Nodes), Files: make([]api.File, len(want.Files))}
			slices.Reverse(x.Nodes)
			if len(x.Nodes) > 0 {
				by %= len(x.Nodes)
				x.Nodes = append(x.Nodes[by:], x.Nodes[:by]...)
			}
			for i, f := range want.Files {
				x.Files[(i+by)%len(x.Files)] = f
			}
			for i := range x.Nodes {
				if x.Nodes[i].File >= 0 {
					x.Nodes[i].File = (x.Nodes[i].File + by) % len(x.Files)
				}
			}
			canon(t, what, x, want)
		}
	}
}

func TestP606Wrong(t *testing.T) {
	for what, x := range great() {
		noCanon(t, what, x, api.ErrBound)
	}
	one, two := files(1), files(2)
	for what, x := range map[string]api.Tree{
		"twice":             {Nodes: []api.Node{folder("a", 1), folder("b", 1), folder("a", 1)}},
		"twice, two kinds":  {Nodes: []api.Node{name("a", 0), folder("a", 1)}, Files: one},
		"twice, two files":  {Nodes: []api.Node{name("a", 1), name("a", 0)}, Files: two},
		"no file":           {Nodes: []api.Node{name("a", 1)}, Files: one},
		"no file, 0":        {Nodes: []api.Node{name("a", 0)}},
		"no file, of many":  {Nodes: []api.Node{name("a", 9), name("b", 4)}, Files: files(9)},
		"no file, in turn":  {Nodes: []api.Node{name("a", 1), name("b", 2)}, Files: two},
		"no file below":     {Nodes: []api.Node{name("a", -2)}, Files: one},
		"no file far":       {Nodes: []api.Node{name("b", math.MaxInt), name("a", 0)}, Files: one},
		"no file far below": {Nodes: []api.Node{name("a", math.MinInt)}, Files: one},
		"name's mode":       {Nodes: []api.Node{{Path: "a", File: 0, Mode: 1}}, Files: one},
		"no parent":         {Nodes: []api.Node{folder("b", 1), name("a/x", 0)}, Files: one},
		"in a file":         {Nodes: []api.Node{name("a/x", 0), name("a", 0)}, Files: one},
		"dir's mode":        {Nodes: []api.Node{folder("a", 512)}},
		"dir's mode below":  {Nodes: []api.Node{folder("a", -1)}},
		"file's mode":       {Nodes: []api.Node{name("a", 1)}, Files: []api.File{file(1, 1), file(512, 1)}},
		"file's mode below": {Nodes: []api.Node{name("a", 0)}, Files: []api.File{file(-1, 1), file(1, 1)}},
		"no path":           {Nodes: []api.Node{folder("a", 1), folder("a/", 1)}},
		"the root":          {Nodes: []api.Node{folder("", 1)}},
	} {
		noCanon(t, what, x, api.ErrTree)
	}
}

// canons tells by the document's words whether Canon answers a tree.
func canons(x api.Tree) bool {
	x.Nodes = slices.Clone(x.Nodes)
	slices.SortStableFunc(x.Nodes, func(a, b api.Node) int { return strings.Compare(a.Path, b.Path) })
	var order []int
	for _, n := range x.Nodes {
		if n.File < -1 || n.File >= len(x.Files) {
			return false
		}
		if n.File >= 0 && !slices.Contains(order, n.File) {
			order = append(order, n.File)
		}
	}
	var l []api.File
	for _, f := range order {
		l = append(l, x.Files[f])
	}
	for i, n := range x.Nodes {
		if n.File >= 0 {
			x.Nodes[i].File = slices.Index(order, n.File)
		}
	}
	x.Files = l
	return isLoose(x)
}

// TestP607All holds all small trees against what follows from the promises.
func TestP607All(t *testing.T) {
	all(nodesOf([]string{"a", "a/b", "a0", "B"}, []int{-2, -1, 0, 1, 2}, []int{0, 1}), 3, func(x api.Tree) {
		c, e := Canon(x)
		if (e == api.OK) != canons(x) {
			t.Fatalf("Canon(%v): %v", x, e)
		}
		if e != api.OK {
			return
		}
		again, f := Canon(c)
		switch {
		case Loose(c) != api.OK || f != api.OK || !Same(c, again):
			t.Fatalf("Canon(%v): %v; then %v", x, c, again)
		case Loose(x) == api.OK && !Same(x, c):
			t.Fatalf("Canon of the loose %v: %v", x, c)
		case len(c.Nodes) != len(x.Nodes):
			t.Fatalf("Canon(%v): %v", x, c)
		}
		for _, n := range x.Nodes {
			m := c.Nodes[Find(c, n.Path)]
			if m.Mode != n.Mode || (m.File < 0) != (n.File < 0) || m.File >= 0 && !reflect.DeepEqual(x.Files[n.File], c.Files[m.File]) {
				t.Fatalf("Canon(%v): %v at %s", x, c, n.Path)
			}
		}
	})
}

func TestP607Bytes(t *testing.T) {
	l := append(near(), sample())
	for _, x := range loose() {
		l = append(l, x)
	}
	for _, x := range l {
		b, _ := Bytes(x)
		for _, y := range l {
			c, _ := Bytes(y)
			if Same(x, y) != bytes.Equal(b, c) {
				t.Fatalf("%v and %v", x, y)
			}
		}
		canon(t, "loose", x, x)
	}
}

// roomy is a tree whose lists have spare room, with things in it.
func roomy(x api.Tree) api.Tree {
	y := api.Tree{Nodes: append(slices.Clone(x.Nodes), folder("spare", 77), name("room", 5)), Files: append(slices.Clone(x.Files), file(11, 3))}
	for i, f := range x.Files {
		y.Files[i].Data = append(slices.Clone(f.Data), "spare"...)[:len(f.Data)]
	}
	y.Nodes, y.Files = y.Nodes[:len(x.Nodes)], y.Files[:len(x.Files)]
	return y
}

// whole are all things of a tree, those in its lists' spare room, too.
func whole(x api.Tree) api.Tree {
	y := api.Tree{Nodes: slices.Clone(x.Nodes[:cap(x.Nodes)]), Files: slices.Clone(x.Files[:cap(x.Files)])}
	for i, f := range y.Files {
		y.Files[i].Data = slices.Clone(f.Data[:cap(f.Data)])
	}
	return y
}

// TestP608Stays calls all there is with trees that are to stay as they are, and turns what was answered.
func TestP608Stays(t *testing.T) {
	l := []api.Tree{}
	for _, m := range []map[string]api.Tree{loose(), wrong(), great()} {
		for _, x := range m {
			l = append(l, x)
			x.Nodes = slices.Clone(x.Nodes)
			slices.Reverse(x.Nodes)
			l = append(l, x)
		}
	}
	for _, x := range l {
		x = roomy(x)
		was := whole(x)
		for range 2 {
			Check(x)
			Loose(x)
			Weight(x)
			Print(x)
			Same(x, x)
			Find(x, "a")
			clear(Names(x, 0))
			clear(Kids(x, ""))
			b, _ := Bytes(x)
			clear(b[:cap(b)])
			c, _ := Canon(x)
			for i := range c.Files {
				clear(c.Files[i].Data[:cap(c.Files[i].Data)])
			}
			clear(c.Nodes[:cap(c.Nodes)])
			clear(c.Files[:cap(c.Files)])
			if now := whole(x); !reflect.DeepEqual(now, was) {
				t.Fatalf("%v, was %v", now, was)
			}
		}
	}
}

// TestP608Own turns each list of an answer: the others stay, and so does what is answered anew.
func TestP608Own(t *testing.T) {
	x := loose()["linked"]
	shared := []byte("both")
	x.Files[0].Data, x.Files[1].Data = shared, shared
	c, _ := Canon(x)
	c.Files[0].Data[0] = 'B'
	c.Files[0].Data = append(c.Files[0].Data, '!')
	is(t, "the other file", string(c.Files[1].Data), "both")
	is(t, "what was handed in", string(shared), "both")
	b, _ := Bytes(x)
	d, _ := Bytes(x)
	b[0] = 200
	is(t, "the other bytes", d[0], 5)
	n, m := Names(x, 0), Names(x, 0)
	n[0] = "turned"
	list(t, "Names", m, "a", "c")
	n, m = Kids(x, ""), Kids(x, "")
	n[0] = "turned"
	list(t, "Kids", m, "a", "b", "c", "d", "e")
}

func TestExamples(t *testing.T) {
	x := sample()
	is(t, "Check", Check(x), api.OK)
	weight(t, "Weight", x, 4+3i)
	is(t, "Find", Find(x, "b"), 2)
	list(t, "Names", Names(x, 0), "a/x", "b")
	list(t, "Kids of a", Kids(x, "a"), "a/x")
	list(t, "Kids of the root", Kids(x, ""), "a", "b")
	x.Nodes = x.Nodes[1:]
	is(t, "without the node a", Check(x), api.ErrTree)
	kept := api.Tree{Nodes: []api.Node{name(".ts-0", 0)}, Files: files(1)}
	is(t, "Loose of .ts-0", Loose(kept), api.OK)
	is(t, "Check of .ts-0", Check(kept), api.ErrTree)
}
