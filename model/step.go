package model

import (
	"slices"
	"strings"

	"shunt/api"
	"shunt/tree"
)

// dir is the File of a node that is a directory.
const dir = -1

// row is a kind of instructions: which fields they have besides their path, whether there is a node more behind them, what they ask of what is at their path, and what they do.
type row struct {
	mode, to, ref, adds bool
	asks                func(there There) api.Errno
	does                func(w *work)
}

// work is a tree that an instruction is done to, whose path is at that place. The lists of nodes and files are its own, the files' bytes are not.
type work struct {
	tree  api.Tree
	at    int
	ins   api.Ins
	stock [][]byte
}

// rows tells the kinds of instructions but OpSync, by their numbers.
func rows() [api.OpSync]row {
	return [api.OpSync]row{
		api.OpMkdir:  {mode: true, adds: true, asks: nothing, does: mkdir},
		api.OpRmdir:  {asks: emptied, does: drop},
		api.OpRename: {to: true, asks: file, does: rename},
		api.OpLink:   {to: true, adds: true, asks: file, does: link},
		api.OpUnlink: {asks: file, does: drop},
		api.OpWrite:  {mode: true, ref: true, adds: true, asks: nothing, does: write},
		api.OpCopy:   {mode: true, to: true, adds: true, asks: file, does: double},
		api.OpChmod:  {mode: true, asks: something, does: chmod},
	}
}

// step does an instruction to a loose tree. What it answers is loose and shares its bytes with t and the stock.
func step(t api.Tree, ins api.Ins, stock [][]byte) (api.Tree, api.Errno) {
	if e := view(t).Refuses(ins, stock); e != api.OK {
		return api.Tree{}, e
	}
	if ins.Op == api.OpSync {
		return t, api.OK
	}
	w := work{ins: ins, stock: stock}
	w.tree.Nodes = append(w.tree.Nodes, t.Nodes...)
	w.tree.Files = append(w.tree.Files, t.Files...)
	w.at, _ = place(t, ins.Path)
	rows()[ins.Op].does(&w)
	tree.Settle(&w.tree)
	return w.tree, api.OK
}

// view tells of a loose tree.
func view(t api.Tree) View {
	at := func(p string) There {
		at, ok := place(t, p)
		if !ok {
			return There{}
		}
		if t.Nodes[at].File != dir {
			return There{Kind: api.KindFile}
		}
		// The paths below p stand in one row, from where this one would.
		below := p + "/"
		first, _ := place(t, below)
		filled := first < len(t.Nodes) && strings.HasPrefix(t.Nodes[first].Path, below)
		return There{Kind: api.KindDir, Filled: filled}
	}
	return View{Nodes: len(t.Nodes), At: at}
}

// place tells where in a loose tree the node with that path stands, or would stand, if there were one.
func place(t api.Tree, p string) (int, bool) {
	return slices.BinarySearchFunc(t.Nodes, p, func(n api.Node, p string) int { return strings.Compare(n.Path, p) })
}

func mkdir(w *work) {
	w.put(api.Node{Path: w.ins.Path, File: dir, Mode: w.ins.Mode})
}

// drop takes a name away; a file that has no other one goes when the tree is settled.
func drop(w *work) {
	w.tree.Nodes = slices.Delete(w.tree.Nodes, w.at, w.at+1)
}

func rename(w *work) {
	w.tree.Nodes[w.at].Path = w.ins.To
}

func link(w *work) {
	w.put(api.Node{Path: w.ins.To, File: w.number()})
}

func write(w *work) {
	w.create(w.ins.Path, w.stock[w.ins.Ref])
}

func double(w *work) {
	w.create(w.ins.To, w.tree.Files[w.number()].Data)
}

func chmod(w *work) {
	if n := &w.tree.Nodes[w.at]; n.File == dir {
		n.Mode = w.ins.Mode
		return
	}
	w.tree.Files[w.number()].Mode = w.ins.Mode
}

// number tells the number of the file at the instruction's path.
func (w *work) number() int { return w.tree.Nodes[w.at].File }

// put puts a node into the tree, in whatever order.
func (w *work) put(n api.Node) { w.tree.Nodes = append(w.tree.Nodes, n) }

// create puts a new file into the tree.
func (w *work) create(p string, data []byte) {
	w.put(api.Node{Path: p, File: len(w.tree.Files)})
	w.tree.Files = append(w.tree.Files, api.File{Mode: w.ins.Mode, Data: data})
}
