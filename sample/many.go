package sample

import (
	"bytes"
	"strconv"

	"shunt/api"
	"shunt/tree"
)

// Dice tells a number from 0 to n - 1 by chance, as *rand.Rand does.
type Dice interface{ Intn(n int) int }

// Flat has so many directories in the root.
func Flat(n int) api.Tree {
	var x api.Tree
	for i := range n {
		x.Nodes = append(x.Nodes, api.Node{Path: strconv.Itoa(1000 + i), File: -1})
	}
	return x
}

// Small are all trees of the names a, b and a/b, with files of two contents, of which one is there with two modes, and directories of two modes.
func Small() []api.Tree {
	var list []api.Tree
	seen := map[string]struct{}{}
	for code := range 6 * 6 * 4 * 27 {
		x, e := tree.Canon(small(code))
		if e != api.OK {
			continue // a/b, but no directory a
		}
		b, _ := tree.Bytes(x)
		if _, ok := seen[string(b)]; !ok {
			seen[string(b)] = struct{}{}
			list = append(list, x)
		}
	}
	return list
}

// small tells by a number what is at each path, and what the three files are; some may have no name.
func small(code int) api.Tree {
	digit := func(n int) int {
		d := code % n
		code /= n
		return d
	}
	var x api.Tree
	for _, spot := range []struct {
		path  string
		kinds int
	}{{"a", 6}, {"b", 6}, {"a/b", 4}} {
		switch d := digit(spot.kinds); d {
		case 3:
		case 4, 5:
			x.Nodes = append(x.Nodes, api.Node{Path: spot.path, File: -1, Mode: d})
		default:
			x.Nodes = append(x.Nodes, api.Node{Path: spot.path, File: d})
		}
	}
	for range 3 {
		kinds := []api.File{{Mode: 1, Data: []byte("x")}, {Mode: 2, Data: []byte("x")}, {Mode: 1, Data: []byte("y")}}
		x.Files = append(x.Files, kinds[digit(3)])
	}
	return x
}

// Chance is a right tree that is grown by chance: of some ten nodes, with hard links, and files that are alike.
func Chance(t Test, r Dice) api.Tree {
	t.Helper()
	var x api.Tree
	used := map[string]struct{}{}
	dirs := []string{""}
	put := func(n api.Node) bool {
		n.Path = dirs[r.Intn(len(dirs))] + "abcd-"[r.Intn(5):][:1]
		if _, ok := used[n.Path]; ok {
			return false
		}
		used[n.Path] = struct{}{}
		x.Nodes = append(x.Nodes, n)
		return true
	}
	for range r.Intn(5) {
		if put(api.Node{File: -1, Mode: r.Intn(2)}) {
			dirs = append(dirs, x.Nodes[len(x.Nodes)-1].Path+"/")
		}
	}
	for range 1 + r.Intn(7) {
		x.Files = append(x.Files, api.File{Mode: r.Intn(2), Data: bytes.Repeat([]byte{byte('x' + r.Intn(2))}, r.Intn(3))})
	}
	for range 2 * len(x.Files) {
		put(api.Node{File: r.Intn(len(x.Files))})
	}
	return right(t, x)
}
