package walk

import (
	"iter"

	"shunt/api"
	"shunt/fs"
)

// place is a path of a file system, and what is there.
type place struct {
	path string
	stat api.Stat
}

// stack is a list from which that is taken first which was put last.
type stack[T any] []T

func (s *stack[T]) push(things ...T) { *s = append(*s, things...) }

func (s *stack[T]) pop() T {
	last := len(*s) - 1
	thing := (*s)[last]
	*s = (*s)[:last]
	return thing
}

// places goes over all that a file system has, each directory ahead of what is in it. A call of it that is refused ends that: its error comes last.
func places(f *fs.FS) iter.Seq2[place, api.Errno] {
	return func(yield func(place, api.Errno) bool) {
		var left stack[place]
		list, e := within(f, "")
		left.push(list...)
		for e == api.OK && len(left) > 0 {
			at := left.pop()
			if !yield(at, api.OK) {
				return
			}
			if at.stat.Kind == api.KindDir {
				list, e = within(f, at.path)
				left.push(list...)
			}
		}
		if e != api.OK {
			yield(place{}, e)
		}
	}
}

// within tells what is in a directory, or in the root, if the path is empty.
func within(f *fs.FS, p string) ([]place, api.Errno) {
	names, e := f.List(p)
	if e != api.OK {
		return nil, e
	}
	if p != "" {
		p += "/"
	}
	var list []place
	for _, name := range names {
		at := place{path: p + name}
		if at.stat, e = f.Stat(at.path); e != api.OK {
			return nil, e
		}
		list = append(list, at)
	}
	return list, api.OK
}

// scan is what a walk has come by so far: the tree, its nodes in the order of the walk.
type scan struct {
	fs      *fs.FS
	tree    api.Tree
	numbers map[int]int // of the files, by their inodes
}

// add puts to the tree what is at a place.
func (s *scan) add(at place) api.Errno {
	// Only a disk on which others have written has more; then there may be no end of it.
	if len(s.tree.Nodes) == api.MaxLoose {
		return api.ErrBound
	}
	n := api.Node{Path: at.path, File: dir, Mode: at.stat.Mode}
	if at.stat.Kind == api.KindFile {
		number, e := s.number(at)
		if e != api.OK {
			return e
		}
		n = api.Node{Path: at.path, File: number}
	}
	s.tree.Nodes = append(s.tree.Nodes, n)
	return api.OK
}

// number tells the number of the file that a place names. It is a new one, if no place so far has that inode.
func (s *scan) number(at place) (int, api.Errno) {
	if number, ok := s.numbers[at.stat.Inode]; ok {
		return number, api.OK
	}
	b, e := s.fs.Read(at.path)
	if e != api.OK {
		return 0, e
	}
	number := len(s.tree.Files)
	s.numbers[at.stat.Inode] = number
	s.tree.Files = append(s.tree.Files, api.File{Mode: at.stat.Mode, Data: b})
	return number, api.OK
}
