package fs

import "shunt/api"

// putMode is the mode of a file that Put makes.
const putMode = 384

// does tells what each instruction does to a tree that does not refuse it, by their numbers.
func (f *FS) does() [api.OpSync]func(ins api.Ins, stock [][]byte) {
	return [api.OpSync]func(api.Ins, [][]byte){
		api.OpMkdir:  f.mkdir,
		api.OpRmdir:  f.drop,
		api.OpRename: f.rename,
		api.OpLink:   f.link,
		api.OpUnlink: f.drop,
		api.OpWrite:  f.write,
		api.OpCopy:   f.double,
		api.OpChmod:  f.turn,
	}
}

func (f *FS) mkdir(ins api.Ins, _ [][]byte) {
	f.hang(ins.Path, f.create(api.KindDir, ins.Mode))
}

// drop takes a name away; what has no other one goes, too.
func (f *FS) drop(ins api.Ins, _ [][]byte) {
	number := f.reach(ins.Path)
	f.unhang(ins.Path)
	f.relink(number, -1)
}

func (f *FS) rename(ins api.Ins, _ [][]byte) {
	number := f.reach(ins.Path)
	f.unhang(ins.Path)
	f.hang(ins.To, number)
}

func (f *FS) link(ins api.Ins, _ [][]byte) {
	number := f.reach(ins.Path)
	f.hang(ins.To, number)
	f.relink(number, 1)
}

func (f *FS) write(ins api.Ins, stock [][]byte) {
	f.file(ins.Path, ins.Mode, stock[ins.Ref])
}

func (f *FS) double(ins api.Ins, _ [][]byte) {
	f.file(ins.To, ins.Mode, f.load(f.get(f.reach(ins.Path))))
}

func (f *FS) turn(ins api.Ins, _ [][]byte) {
	f.chmod(f.reach(ins.Path), ins.Mode)
}

// file makes a file with its first name.
func (f *FS) file(p string, mode int, b []byte) {
	number := f.create(api.KindFile, mode)
	f.store(number, b)
	f.hang(p, number)
}

// put gives the file at a path its bytes, and makes it, if there is none.
func (f *FS) put(p string, b []byte) api.Errno {
	ins, stock := api.Ins{Op: api.OpWrite, Path: p, Mode: putMode}, [][]byte{b}
	e := f.view().Refuses(ins, stock)
	switch e {
	case api.OK:
		f.write(ins, stock)
	case api.ErrExists:
		// What an OpWrite finds there is what this one is for, but a directory.
		if f.there(p).Kind == api.KindDir {
			return api.ErrIsDir
		}
		f.store(f.reach(p), b)
		return api.OK
	}
	return e
}
