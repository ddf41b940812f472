package model

import (
	"slices"
	"strings"

	"shunt/api"
	"shunt/path"
	"shunt/tree"
)

const (
	dir  = -1 // the File of a node that is a directory
	none = -1 // the place of a node that is not there
)

// row is a kind of instructions: which fields they have besides their path, what they ask of the place at it, and what they do.
type row struct {
	mode, to, ref bool
	asks          func(t api.Tree, at int) api.Errno
	does          func(w *work)
}

// work is a tree that an instruction is done to, whose path is at that place. The lists of nodes and files are its own, the files' bytes are not.
type work struct {
	tree  api.Tree
	at    int
	ins   api.Ins
	stock [][]byte
}

// rows tells the kinds of instructions but OpSync, by their numbers.
func rows() [api.OpSync]row {
	return [api.OpSync]row{
		api.OpMkdir:  {mode: true, asks: nothing, does: mkdir},
		api.OpRmdir:  {asks: emptied, does: drop},
		api.OpRename: {to: true, asks: file, does: rename},
		api.OpLink:   {to: true, asks: file, does: link},
		api.OpUnlink: {asks: file, does: drop},
		api.OpWrite:  {mode: true, ref: true, asks: nothing, does: write},
		api.OpCopy:   {mode: true, to: true, asks: file, does: double},
		api.OpChmod:  {mode: true, asks: something, does: chmod},
	}
}

// step does an instruction to a loose tree. What it answers is loose and shares its bytes with t and the stock.
func step(t api.Tree, ins api.Ins, stock [][]byte) (api.Tree, api.Errno) {
	var (
		w    = work{ins: ins, stock: stock}
		look = looker(t)
		kind row
		e    api.Errno
	)
	switch {
	case ins.Op == api.OpSync:
		return t, api.OK
	case ins.Op < api.OpMkdir || ins.Op > api.OpSync:
		e = api.ErrOp
		goto refused
	}
	kind = rows()[ins.Op]
	if e = kind.wrong(ins, stock); e != api.OK {
		goto refused
	}
	if w.at, e = look(ins.Path, kind.asks); e != api.OK {
		goto refused
	}
	if kind.to {
		if _, e = look(ins.To, nothing); e != api.OK {
			goto refused
		}
	}
	w.tree.Nodes = append(w.tree.Nodes, t.Nodes...)
	w.tree.Files = append(w.tree.Files, t.Files...)
	kind.does(&w)
	if len(w.tree.Nodes) > api.MaxLoose {
		e = api.ErrBound
		goto refused
	}
	tree.Settle(&w.tree)
	return w.tree, api.OK
refused:
	return api.Tree{}, e
}

// wrong tells what is wrong in those fields of an instruction that its kind has, whatever the tree is.
func (k row) wrong(ins api.Ins, stock [][]byte) api.Errno {
	switch {
	case k.mode && (ins.Mode < 0 || ins.Mode > api.MaxMode):
		return api.ErrMode
	case ins.Path == "" || k.to && ins.To == "":
		return api.ErrRoot
	case !path.Valid(ins.Path) || k.to && !path.Valid(ins.To):
		return api.ErrPath
	case k.ref && (ins.Ref < 0 || ins.Ref >= len(stock)):
		return api.ErrMissing
	case k.ref && len(stock[ins.Ref]) > api.MaxData:
		return api.ErrLong
	}
	return api.OK
}

// looker tells how a path is looked for in t, from the root name by name: its place, and what it is refused for, on the way or by what is asked of the place.
func looker(t api.Tree) func(p string, asks func(api.Tree, int) api.Errno) (int, api.Errno) {
	find := func(p string) int {
		at, ok := slices.BinarySearchFunc(t.Nodes, p, func(n api.Node, p string) int { return strings.Compare(n.Path, p) })
		if !ok {
			return none
		}
		return at
	}
	return func(p string, asks func(api.Tree, int) api.Errno) (int, api.Errno) {
		for i, r := range p {
			if r != '/' {
				continue
			}
			if e := folder(t, find(p[:i])); e != api.OK {
				return none, e
			}
		}
		at := find(p)
		return at, asks(t, at)
	}
}

// nothing asks that nothing is there.
func nothing(t api.Tree, at int) api.Errno {
	if at != none {
		return api.ErrExists
	}
	return api.OK
}

// something asks that something is there.
func something(t api.Tree, at int) api.Errno {
	if at == none {
		return api.ErrNone
	}
	return api.OK
}

// file asks that a name of a file is there.
func file(t api.Tree, at int) api.Errno {
	if e := something(t, at); e != api.OK {
		return e
	}
	if t.Nodes[at].File == dir {
		return api.ErrIsDir
	}
	return api.OK
}

// folder asks that a directory is there.
func folder(t api.Tree, at int) api.Errno {
	if e := something(t, at); e != api.OK {
		return e
	}
	if t.Nodes[at].File != dir {
		return api.ErrNotDir
	}
	return api.OK
}

// emptied asks that a directory is there, and nothing in it.
func emptied(t api.Tree, at int) api.Errno {
	if e := folder(t, at); e != api.OK {
		return e
	}
	below := func(n api.Node) bool { return path.Parent(n.Path) == t.Nodes[at].Path }
	if slices.ContainsFunc(t.Nodes, below) {
		return api.ErrFilled
	}
	return api.OK
}

func mkdir(w *work) {
	w.put(api.Node{Path: w.ins.Path, File: dir, Mode: w.ins.Mode})
}

// drop takes a name away; a file that has no other one goes when the tree is settled.
func drop(w *work) {
	w.tree.Nodes = slices.Delete(w.tree.Nodes, w.at, w.at+1)
}

func rename(w *work) {
	w.tree.Nodes[w.at].Path = w.ins.To
}

func link(w *work) {
	w.put(api.Node{Path: w.ins.To, File: w.number()})
}

func write(w *work) {
	w.create(w.ins.Path, w.stock[w.ins.Ref])
}

func double(w *work) {
	w.create(w.ins.To, w.tree.Files[w.number()].Data)
}

func chmod(w *work) {
	if n := &w.tree.Nodes[w.at]; n.File == dir {
		n.Mode = w.ins.Mode
		return
	}
	w.tree.Files[w.number()].Mode = w.ins.Mode
}

// number tells the number of the file at the instruction's path.
func (w *work) number() int { return w.tree.Nodes[w.at].File }

// put puts a node into the tree, in whatever order.
func (w *work) put(n api.Node) { w.tree.Nodes = append(w.tree.Nodes, n) }

// create puts a new file into the tree.
func (w *work) create(p string, data []byte) {
	w.put(api.Node{Path: p, File: len(w.tree.Files)})
	w.tree.Files = append(w.tree.Files, api.File{Mode: w.ins.Mode, Data: data})
}
