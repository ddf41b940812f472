package fs

import (
	"bytes"

	"shunt/api"
	"shunt/model"
	"shunt/path"
)

// entrySize is how many bytes of a directory's block a name takes: the inode's number, and the name with noughts behind.
const entrySize = api.Block / api.PerBlock

// entry is a name in a directory, and the inode that it names.
type entry struct {
	name   string
	number int
}

// names are what there is, by paths from the root on.
type names struct{ inodes }

// entries tells the names in a directory.
func (n *names) entries(dir inode) []entry {
	var list []entry
	for _, k := range n.holds(dir) {
		block := n.read(n.stands(k))
		for spot := range min(dir.size-len(list), api.PerBlock) {
			b := block[spot*entrySize:]
			name := bytes.TrimRight(b[2:2+api.MaxName], "\x00")
			list = append(list, entry{string(name), word(b)})
		}
	}
	return list
}

// setEntry gives a directory the name at that place.
func (n *names) setEntry(dir inode, place int, e entry) {
	if dir.kind != api.KindDir || place < 0 || place >= dir.size {
		n.fail(api.ErrRaw)
		return
	}
	b := n.edit(n.stands(n.holds(dir)[place/api.PerBlock]))[place%api.PerBlock*entrySize:]
	setWord(b, e.number)
	clear(b[2+copy(b[2:2+api.MaxName], e.name) : entrySize])
}

// reach tells the inode at a path whose parent is a directory, or 0, if nothing is there.
func (n *names) reach(p string) int {
	number := root
down:
	for _, name := range path.Names(p) {
		for _, e := range n.entries(n.get(number)) {
			if e.name == name {
				number = e.number
				continue down
			}
		}
		return 0
	}
	return number
}

// there tells what is at a path.
func (n *names) there(p string) model.There {
	number := n.reach(p)
	if number == 0 {
		return model.There{}
	}
	i := n.get(number)
	return model.There{Kind: i.kind, Filled: i.kind == api.KindDir && i.size > 0}
}

// view tells of the tree what it takes to know what is refused.
func (n *names) view() model.View { return model.View{Nodes: n.nodes, At: n.there} }

// hang gives an inode a name.
func (n *names) hang(p string, number int) {
	at := n.reach(path.Parent(p))
	dir := n.get(at)
	n.resize(&dir, dir.size+1)
	n.setEntry(dir, dir.size-1, entry{path.Base(p), number})
	n.set(at, dir)
	n.nodes++
}

// unhang takes a name away. The last name of the directory takes its place, so that no block has less names than it could.
func (n *names) unhang(p string) {
	at := n.reach(path.Parent(p))
	dir := n.get(at)
	list := n.entries(dir)
	for place, e := range list {
		if e.name == path.Base(p) {
			n.setEntry(dir, place, list[len(list)-1])
			n.resize(&dir, len(list)-1)
			n.set(at, dir)
			n.nodes--
			return
		}
	}
	n.fail(api.ErrRaw)
}
