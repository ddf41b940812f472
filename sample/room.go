package sample

import (
	"bytes"
	"slices"

	"shunt/api"
)

// Room is bytes with more than as many spare ones behind them.
func Room(b []byte) []byte {
	return append(bytes.Clone(b), bytes.Repeat([]byte{'r'}, 1+len(b))...)[:len(b)]
}

// Roomy is a tree in lists with spare room.
func Roomy(x api.Tree) api.Tree {
	nodes := append(slices.Clone(x.Nodes), api.Node{Path: "spare", File: 5, Mode: 6}, api.Node{Path: "zz"})
	files := append(slices.Clone(x.Files), api.File{Mode: 3, Data: []byte("spare")})
	for i, f := range files {
		files[i].Data = Room(f.Data)
	}
	return api.Tree{Nodes: nodes[:len(x.Nodes)], Files: files[:len(x.Files)]}
}

// Whole is all that stands in a tree's lists, spare room too, in memory of its own.
func Whole(x api.Tree) api.Tree {
	w := api.Tree{Nodes: slices.Clone(x.Nodes[:cap(x.Nodes)]), Files: slices.Clone(x.Files[:cap(x.Files)])}
	for i, f := range w.Files {
		w.Files[i].Data = bytes.Clone(f.Data[:cap(f.Data)])
	}
	return w
}
