package model

import (
	"shunt/api"
	"shunt/path"
)

// There is what is at a path: its Kind, 0 if that is nothing, and whether it is a directory with something in it.
type There struct {
	Kind   int
	Filled bool
}

// View is what a tree must tell for it to be known which instructions it refuses, whatever the tree is kept in: how many nodes it has, and what is at a path whose parent is the root or a directory of it.
type View struct {
	Nodes int
	At    func(p string) There
}

// Look looks for a path, from the root name by name.
func (v View) Look(p string) (There, api.Errno) {
	for i, r := range p {
		if r != '/' {
			continue
		}
		if e := folder(v.At(p[:i])); e != api.OK {
			return There{}, e
		}
	}
	return v.At(p), api.OK
}

// Refuses tells why the tree refuses an instruction, or api.OK, if it does not.
func (v View) Refuses(ins api.Ins, stock [][]byte) api.Errno {
	var (
		kind row
		e    api.Errno
	)
	switch {
	case ins.Op == api.OpSync:
		return api.OK
	case ins.Op < api.OpMkdir || ins.Op > api.OpSync:
		e = api.ErrOp
		goto refused
	}
	kind = rows()[ins.Op]
	if e = kind.wrong(ins, stock); e != api.OK {
		goto refused
	}
	if e = v.asks(ins.Path, kind.asks); e != api.OK {
		goto refused
	}
	if kind.to {
		if e = v.asks(ins.To, nothing); e != api.OK {
			goto refused
		}
	}
	if kind.adds && v.Nodes >= api.MaxLoose {
		e = api.ErrBound
		goto refused
	}
	return api.OK
refused:
	return e
}

// asks looks for a path, and asks that of what is there.
func (v View) asks(p string, that func(There) api.Errno) api.Errno {
	there, e := v.Look(p)
	if e != api.OK {
		return e
	}
	return that(there)
}

// wrong tells what is wrong in those fields of an instruction that its kind has, whatever the tree is.
func (k row) wrong(ins api.Ins, stock [][]byte) api.Errno {
	switch {
	case k.mode && (ins.Mode < 0 || ins.Mode > api.MaxMode):
		return api.ErrMode
	case ins.Path == "" || k.to && ins.To == "":
		return api.ErrRoot
	case !path.Valid(ins.Path) || k.to && !path.Valid(ins.To):
		return api.ErrPath
	case k.ref && (ins.Ref < 0 || ins.Ref >= len(stock)):
		return api.ErrMissing
	case k.ref && len(stock[ins.Ref]) > api.MaxData:
		return api.ErrLong
	}
	return api.OK
}

// nothing asks that nothing is there.
func nothing(there There) api.Errno {
	if there.Kind != 0 {
		return api.ErrExists
	}
	return api.OK
}

// something asks that something is there.
func something(there There) api.Errno {
	if there.Kind == 0 {
		return api.ErrNone
	}
	return api.OK
}

// file asks that a name of a file is there.
func file(there There) api.Errno {
	if there.Kind == api.KindDir {
		return api.ErrIsDir
	}
	return something(there)
}

// folder asks that a directory is there.
func folder(there There) api.Errno {
	if there.Kind == api.KindFile {
		return api.ErrNotDir
	}
	return something(there)
}

// emptied asks that a directory is there, and nothing in it.
func emptied(there There) api.Errno {
	if there.Filled {
		return api.ErrFilled
	}
	return folder(there)
}
