package fs

import (
	"slices"

	"shunt/api"
)

const (
	perTable  = 8 // inodes of a block
	inodeSize = api.Block / perTable
	spots     = api.MaxData / api.Block // numbers of blocks in an inode: all that a directory may have
	root      = 1                       // the inode of the root
)

// inode is a file or a directory; one that is free is all noughts.
type inode struct {
	kind, mode int
	links      int // names; of a directory 1
	size       int // bytes; of a directory names in it
	spots      [spots]int
}

// inodes are what there is, without its names: by numbers from 1 on.
type inodes struct{ blocks }

// owns tells how many blocks an inode has.
func (i inode) owns() int {
	if i.kind == api.KindDir {
		return max(parts(i.size, api.PerBlock), 1)
	}
	owns := parts(i.size, api.Block)
	if owns > api.Direct {
		owns++
	}
	return owns
}

// near tells how many numbers of its blocks stand in an inode itself. The others of a file stand in its block number api.Direct.
func (i inode) near() int {
	if i.kind == api.KindDir {
		return spots
	}
	return api.Direct + 1
}

// fits tells whether an inode can be one.
func (i inode) fits() bool {
	most := -1
	switch i.kind {
	case api.KindDir:
		most = api.MaxLoose
	case api.KindFile:
		most = api.MaxData
	}
	return i.links > 0 && i.mode <= api.MaxMode && i.size <= most
}

// most tells how many inodes there are at the most.
func (n *inodes) most() int { return int(imag(n.room)) }

// lookUp tells in which block an inode stands, and from where on.
func (n *inodes) lookUp(number int) (at, from int) {
	if number < 1 || number > n.most() {
		n.fail(api.ErrRaw)
		number = root
	}
	return tableAt + (number-1)/perTable, (number - 1) % perTable * inodeSize
}

// get tells an inode.
func (n *inodes) get(number int) inode {
	at, from := n.lookUp(number)
	b := n.read(at)[from:]
	i := inode{kind: int(b[0]), mode: word(b[1:]), links: word(b[3:]), size: word(b[5:])}
	for spot := range spots {
		i.spots[spot] = word(b[7+2*spot:])
	}
	if i != (inode{}) && !i.fits() {
		n.fail(api.ErrRaw)
		return inode{}
	}
	return i
}

// set gives an inode what it is now.
func (n *inodes) set(number int, i inode) {
	at, from := n.lookUp(number)
	b := n.edit(at)[from:]
	b[0] = byte(i.kind)
	setWord(b[1:], i.mode)
	setWord(b[3:], i.links)
	setWord(b[5:], i.size)
	for spot, k := range i.spots {
		setWord(b[7+2*spot:], k)
	}
}

// create makes an inode of what has no bytes, or names in it, yet.
func (n *inodes) create(kind, mode int) int {
	n.charge(1i)
	number := n.vacant()
	i := inode{kind: kind, mode: mode, links: 1}
	n.supply(&i, nil)
	n.set(number, i)
	return number
}

// vacant finds an inode that is free.
func (n *inodes) vacant() int {
	for number := 1; number <= n.most(); number++ {
		if at, from := n.lookUp(number); n.read(at)[from] == 0 {
			return number
		}
	}
	// What fits the room finds an inode, but on a disk that others have written to.
	n.fail(api.ErrRaw)
	return root
}

// relink gives an inode so many names more; without any it is free.
func (n *inodes) relink(number, more int) {
	i := n.get(number)
	i.links += more
	if i.links < 1 {
		for _, k := range n.list(i) {
			n.leave(k)
		}
		n.charge(-1i)
		i = inode{}
	}
	n.set(number, i)
}

// chmod gives an inode its mode.
func (n *inodes) chmod(number, mode int) {
	i := n.get(number)
	i.mode = mode
	n.set(number, i)
}

// list tells the numbers of an inode's blocks.
func (n *inodes) list(i inode) []int {
	owns, near := i.owns(), i.near()
	list := slices.Clone(i.spots[:min(owns, near)])
	if owns > near {
		further := n.read(n.stands(i.spots[api.Direct]))
		for spot := range owns - near {
			list = append(list, word(further[2*spot:]))
		}
	}
	return list
}

// holds tells of an inode's blocks those that hold its bytes, or names.
func (n *inodes) holds(i inode) []int {
	list := n.list(i)
	if i.kind == api.KindFile && len(list) > api.Direct {
		list = slices.Delete(list, api.Direct, api.Direct+1)
	}
	return list
}

// resize gives an inode its size, and as many blocks as that asks for.
func (n *inodes) resize(i *inode, size int) {
	was, list := *i, n.list(*i)
	i.size = size
	if !i.fits() {
		n.fail(api.ErrRaw)
		*i = was
		return
	}
	n.supply(i, list)
}

// supply gives an inode that has these blocks as many as its size asks for.
func (n *inodes) supply(i *inode, list []int) {
	for len(list) > i.owns() {
		last := len(list) - 1
		n.leave(list[last])
		list = list[:last]
	}
	for len(list) < i.owns() {
		list = append(list, n.take())
	}
	i.spots = [spots]int{}
	far := list[copy(i.spots[:i.near()], list):]
	for spot, k := range far {
		setWord(n.edit(n.stands(i.spots[api.Direct]))[2*spot:], k)
	}
}

// store gives a file its bytes.
func (n *inodes) store(number int, b []byte) {
	i := n.get(number)
	n.resize(&i, len(b))
	n.set(number, i)
	for _, k := range n.holds(i) {
		b = b[copy(n.edit(n.stands(k)), b):]
	}
}

// load tells a file's bytes.
func (n *inodes) load(i inode) []byte {
	var b []byte
	for _, k := range n.holds(i) {
		b = append(b, n.read(n.stands(k))...)
	}
	return b[:i.size]
}

// parts tells how many parts of that size so many things fill, the last one perhaps not whole.
func parts(things, size int) int { return (things + size - 1) / size }

// word reads a number of two bytes, the lowest first.
func word(b []byte) int { return int(b[0]) | int(b[1])<<8 }

// setWord writes such a number.
func setWord(b []byte, n int) { b[0], b[1] = byte(n), byte(n>>8) }
