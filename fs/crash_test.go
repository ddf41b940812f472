package fs

import (
	"bytes"
	"slices"
	"strconv"
	"testing"

	"shunt/api"
	"shunt/disk"
	"shunt/model"
	"shunt/tree"
)

// keeps goes over what a crash may keep of what a disk holds back: all that there is, if it is little; else some of all kinds.
func keeps(d *disk.Disk) [][]int {
	n := len(d.Pending())
	var all [][]int
	if n <= 4 {
		for which := range 1 << n {
			keep := make([]int, n)
			for i := range keep {
				keep[i] = which >> i & 1
			}
			all = append(all, keep)
		}
		return all
	}
	which := func(kept func(i int) bool) {
		keep := make([]int, n)
		for i := range keep {
			if kept(i) {
				keep[i] = 1
			}
		}
		all = append(all, keep)
	}
	which(func(i int) bool { return false })
	which(func(i int) bool { return true })
	which(func(i int) bool { return i%2 == 0 })
	which(func(i int) bool { return i%2 == 1 })
	for at := range n {
		which(func(i int) bool { return i == at })
		which(func(i int) bool { return i != at })
		which(func(i int) bool { return i < at })
	}
	return all
}

// call is a call of a file system, and the tree that it makes of one.
type call struct {
	on    func(f *FS) api.Errno
	makes func(x api.Tree) api.Tree // of a sync none
}

func does(ins api.Ins) call {
	return call{
		on:    func(f *FS) api.Errno { return f.Do(ins, sizes()) },
		makes: func(x api.Tree) api.Tree { x, _ = model.Do(x, ins, sizes()); return x },
	}
}

func puts(p string, b []byte) call {
	return call{
		on:    func(f *FS) api.Errno { return f.Put(p, b) },
		makes: func(x api.Tree) api.Tree { x, _ = putTree(x, p, b); return x },
	}
}

// lives are calls of each kind, with syncs here and there.
func lives() []call {
	return []call{
		does(mkdirs("d", 493)), does(writes("d/f", 420, 7)), does(links("d/f", "g")), {on: func(f *FS) api.Errno { return f.Sync() }},
		puts(".ts-journal", pattern(34, 1)), does(copies("g", "d/h", 7)), does(unlinks("d/f")), puts("g", pattern(700, 2)), {on: func(f *FS) api.Errno { return f.Do(syncs(), nil) }},
		does(renames("d/h", "h")), does(rmdirs("d")), does(mkdirs("d", 1)), puts(".ts-journal", pattern(34, 3)), does(chmods("h", 511)), does(unlinks("g")), does(unlinks(".ts-journal")),
	}
}

// life is what has become of a file system: the trees that there were behind its calls, of which those from first on may be there behind a crash.
type life struct {
	trees []api.Tree
	first int
}

// live does calls, up to one that answers an error, and tells that.
func (l *life) live(f *FS, calls []call) api.Errno {
	for _, c := range calls {
		x := l.trees[len(l.trees)-1]
		if c.makes != nil {
			x = c.makes(x)
			l.trees = append(l.trees, x)
		}
		if e := c.on(f); e != api.OK {
			return e
		}
		if c.makes == nil {
			l.first = len(l.trees) - 1
		}
	}
	return api.OK
}

// one wants a file system to have one of the trees that may be there, and tells that.
func (l *life) one(t *testing.T, what string, f *FS) api.Tree {
	t.Helper()
	x := scan(t, f).tree
	if !slices.ContainsFunc(l.trees[l.first:], func(y api.Tree) bool { return tree.Same(x, y) }) {
		t.Fatalf("%s: %v is no tree that may be there", what, x)
	}
	is(t, what+": Free", f.Free(), f.Room()-weight(t, x))
	return x
}

// crashed holds what is there behind a crash.
func (l *life) crashed(t *testing.T, what string, d *disk.Disk) {
	t.Helper()
	for _, keep := range keeps(d) {
		twin := d.Twin()
		twin.Crash(keep)
		f := mounted(t, twin)
		x := l.one(t, what, f)
		// A Mount is a Sync: that tree stays.
		twin.Crash(nil)
		has(t, what+", once more", mounted(t, twin), x)
	}
}

// Wherever the power fails, and whatever is kept, the tree is that behind some of the calls, from the last Sync on.
func TestP808Crashes(t *testing.T) {
	for fuse := 0; ; fuse++ {
		d, f := made(t, 60, 16)
		l := life{trees: make([]api.Tree, 1)}
		d.Fuse(fuse)
		e := l.live(f, lives())
		l.crashed(t, "fuse "+strconv.Itoa(fuse), d)
		if e == api.OK {
			break
		}
		is(t, "it fails", e, api.ErrOff)
		isOff(t, "the power is gone", f)
	}
}

// The power fails within Mount, too, and then within the calls behind it.
func TestP808Again(t *testing.T) {
	for fuse := 0; fuse < 200; fuse += 3 {
		d, f := made(t, 60, 16)
		l := life{trees: make([]api.Tree, 1)}
		d.Fuse(fuse)
		if l.live(f, lives()) == api.OK {
			break
		}
		for _, keep := range keeps(d) {
			twin := d.Twin()
			twin.Crash(keep)
			again(t, l, twin, keep)
		}
	}
}

// again mounts a disk, the power failing ever again, each time a step later; then it does the calls that are missing.
func again(t *testing.T, l life, d *disk.Disk, keep []int) {
	t.Helper()
	for fuse := 0; ; fuse++ {
		d.Fuse(fuse)
		f, e := Mount(d)
		if e == api.OK {
			d.Fuse(-1)
			next := life{trees: []api.Tree{l.one(t, "interrupted", f)}}
			d.Fuse(fuse * 7 % 40)
			next.live(f, []call{puts("new", pattern(5000, 9)), does(mkdirs("more", 1)), does(copies("new", "more/x", 1)), does(unlinks("new"))})
			d.Crash(keep)
			f = mounted(t, d)
			x := next.one(t, "interrupted again", f)
			w := twin{t: t, f: f, tree: x}
			is(t, "Put", w.put("last", pattern(8192, 8)), api.OK)
			w.check("it goes on")
			return
		}
		refused(t, "Mount", f, e, api.ErrOff)
		d.Crash(keep)
	}
}

// What a Sync, an OpSync, a Mount or a Format has answered is there, whatever is lost.
func TestP807(t *testing.T) {
	for i, sync := range []func(d *disk.Disk, f *FS) api.Errno{
		func(d *disk.Disk, f *FS) api.Errno { return f.Sync() },
		func(d *disk.Disk, f *FS) api.Errno { return f.Do(syncs(), nil) },
		func(d *disk.Disk, f *FS) api.Errno { _, e := Mount(d); return e },
	} {
		d, f := made(t, 80, 16)
		must(t, f, sizes(), grove()...)
		is(t, "sync "+strconv.Itoa(i), sync(d, f), api.OK)
		for range 3 {
			d.Crash(nil)
			f = mounted(t, d)
			has(t, "synced", f, groveTree(t))
		}
		d.Fuse(1)
		is(t, "the power fails within", f.Sync(), api.ErrOff)
		isOff(t, "without power", f)
	}
}

// A Do of OpSync is as a Sync, wherever the power fails.
func TestP807Steps(t *testing.T) {
	for fuse := 0; ; fuse++ {
		d, f := made(t, 10, 16)
		must(t, f, nil, mkdirs("a", 1))
		twin := d.Twin()
		g := mounted(t, twin)
		d.Fuse(fuse)
		twin.Fuse(fuse)
		e := f.Sync()
		is(t, "as Sync", g.Do(syncs(), nil), e)
		is(t, "as Sync", twin.On(), d.On())
		if e == api.OK && d.On() {
			break
		}
	}
}

func TestP809HandedIn(t *testing.T) {
	_, f := made(t, 60, 16)
	stock := [][]byte{append([]byte("new"), "spare"...)[:3], pattern(5000, 1)}
	want := [][]byte{slices.Clone(stock[0]), slices.Clone(stock[1])}
	must(t, f, stock, writes("a", 1, 0), writes("b", 2, 1), copies("b", "c", 3))
	b := append([]byte("put"), "spare"...)[:3]
	is(t, "Put", f.Put("d", b), api.OK)
	is(t, "Put", string(b[:8]), "putspare")
	is(t, "the stock", bytes.Equal(stock[0], want[0]) && bytes.Equal(stock[1], want[1]) && string(stock[0][:8]) == "newspare", true)
	clear(stock[0])
	clear(stock[1])
	clear(b)
	for p, x := range map[string]string{"a": "new", "b": string(want[1]), "c": string(want[1]), "d": "put"} {
		got, e := f.Read(p)
		is(t, "Read", e, api.OK)
		is(t, "Read "+p, string(got), x)
	}
}

func TestP809Answers(t *testing.T) {
	_, f := made(t, 60, 16)
	must(t, f, sizes(), grove()...)
	b, _ := f.Read("f")
	l, _ := f.List("")
	for i := range b[:cap(b)] {
		b[:cap(b)][i] ^= 255
	}
	for i := range l[:cap(l)] {
		l[:cap(l)][i] = "spoilt"
	}
	has(t, "what was answered is turned", f, groveTree(t))
	must(t, f, sizes(), mkdirs("k", 1), rmdirs("k"))
	has(t, "and something is done", f, groveTree(t))
}

// Two file systems on two disks have nothing in common.
func TestP809Two(t *testing.T) {
	d, f := made(t, 80, 16)
	must(t, f, sizes(), grove()[:5]...)
	x := scan(t, f).tree
	other := mounted(t, d.Twin())
	must(t, f, sizes(), grove()[5:]...)
	has(t, "one", f, groveTree(t))
	has(t, "the other one", other, x)
	must(t, other, sizes(), unlinks("f"))
	has(t, "one", f, groveTree(t))
}
