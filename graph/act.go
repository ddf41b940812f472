package graph

import (
	"shunt/api"
	"shunt/path"
)

// act is an action, with what it does to paths: each of its methods tells those to which it does that.
type act api.Act

// empties: nothing is there behind it.
func (a act) empties() []string {
	switch a.Op {
	case api.OpUnlink, api.OpRmdir, api.OpRename:
		return []string{a.Path}
	}
	return nil
}

// fills: something is there behind it that was not.
func (a act) fills() []string {
	switch a.Op {
	case api.OpMkdir, api.OpWrite:
		return []string{a.Path}
	case api.OpRename, api.OpLink, api.OpCopy:
		return []string{a.To}
	}
	return nil
}

// makes: it fills them with a directory.
func (a act) makes() []string {
	if a.Op != api.OpMkdir {
		return nil
	}
	return a.fills()
}

// enters: it puts something into them.
func (a act) enters() []string {
	list := a.fills()
	for i, p := range list {
		list[i] = path.Parent(p)
	}
	return list
}

// uses: it takes what is there, and leaves it there.
func (a act) uses() []string {
	switch a.Op {
	case api.OpLink, api.OpCopy, api.OpChmod:
		return []string{a.Path}
	}
	return nil
}
