package fs

import (
	"shunt/api"
	"shunt/toll"
)

// survey counts what the tree on the disk takes.
func (f *FS) survey() api.Errno {
	f.meet(root, map[int]struct{}{})
	if fits, _ := toll.Fits(f.weight, f.room); !fits {
		f.fail(api.ErrRaw)
	}
	return api.OK
}

// meet counts an inode, if no name so far was its own, and what is in it.
func (f *FS) meet(number int, met map[int]struct{}) {
	if _, ok := met[number]; ok {
		return
	}
	met[number] = struct{}{}
	i := f.get(number)
	f.weight += complex(float64(i.owns()), 1)
	switch i.kind {
	case 0:
		f.fail(api.ErrRaw)
	case api.KindDir:
		for _, e := range f.entries(i) {
			f.nodes++
			f.meet(e.number, met)
		}
	}
}
