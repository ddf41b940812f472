package walk

import (
	"iter"

	"shunt/api"
)

// makes goes over the instructions that make a loose tree where there is nothing, with contentsOf it as the stock. At each moment all that is there is of the tree, with its mode and its bytes.
func makes(t api.Tree) iter.Seq[api.Ins] {
	return func(yield func(api.Ins) bool) {
		var named []string // the first name of each file that was made
		for _, n := range t.Nodes {
			ins := api.Ins{Op: api.OpMkdir, Path: n.Path, Mode: n.Mode}
			switch {
			case n.File == dir:
			case n.File == len(named): // files are numbered in the order of their first names
				named = append(named, n.Path)
				ins = api.Ins{Op: api.OpWrite, Path: n.Path, Mode: t.Files[n.File].Mode, Ref: n.File}
			default:
				ins = api.Ins{Op: api.OpLink, Path: named[n.File], To: n.Path}
			}
			if !yield(ins) {
				return
			}
		}
	}
}

// contentsOf tells the bytes of a tree's files, by their numbers.
func contentsOf(t api.Tree) [][]byte {
	var list [][]byte
	for _, file := range t.Files {
		list = append(list, file.Data)
	}
	return list
}
