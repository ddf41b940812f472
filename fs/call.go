package fs

import (
	"shunt/api"
	"shunt/path"
)

// call does what a call does: what it changes is made at its end, or not at all, if it is refused.
func (f *FS) call(do func() api.Errno) (e api.Errno) {
	if f == nil {
		return api.ErrOff
	}
	defer f.settle(f.use, &e)
	// Nothing else is told without power.
	if _, e := f.ledger.Read(headAt); e != api.OK {
		return e
	}
	return do()
}

// settle ends a call: it makes what was gathered, or leaves the tree as it was ahead of the call.
func (f *FS) settle(was use, e *api.Errno) {
	if f.fault != api.OK {
		*e = f.fault
	}
	if *e == api.OK {
		*e = f.commit()
	}
	switch *e {
	case api.OK:
	case api.ErrOff:
		// It is off for good: nothing is left of it.
		*f = FS{}
		return
	default:
		f.use = was
	}
	f.fault = api.OK
	clear(f.changed)
}

// tell does a call that tells something of the inode at a path, and changes nothing.
func tell[T any](f *FS, p string, of func(number int) (T, api.Errno)) (T, api.Errno) {
	var told, none T
	e := f.call(func() api.Errno {
		number, e := f.seek(p)
		if e == api.OK {
			told, e = of(number)
		}
		return e
	})
	if e != api.OK {
		return none, e
	}
	return told, api.OK
}

// seek looks for a path (the root is there, too), and tells the inode that is there.
func (f *FS) seek(p string) (int, api.Errno) {
	if p != "" && !path.Valid(p) {
		return 0, api.ErrPath
	}
	there, e := f.view().Look(p)
	if e == api.OK && there.Kind == 0 {
		e = api.ErrNone
	}
	if e != api.OK {
		return 0, e
	}
	return f.reach(p), api.OK
}
