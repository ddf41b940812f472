package ledger

import (
	"bytes"

	"shunt/api"
)

// attempt does what a call does: a step of it that can't go on gives up by a panic with its error, which is caught here.
func (l *Ledger) attempt(do func()) (e api.Errno) {
	if l == nil || l.disk == nil || l.off {
		return api.ErrOff
	}
	defer func() {
		switch p := recover().(type) {
		case nil:
		case api.Errno:
			e = p
		default:
			panic(p)
		}
		l.off = e == api.ErrOff
	}()
	l.power()
	do()
	// The power may have failed just behind the last step: that is still within the call.
	l.power()
	return api.OK
}

// head tells the disk's head, or gives up, if the disk was not formatted.
func (l *Ledger) head() head {
	h, ok := parse(l.read(headAt))
	if !ok || h.blocks != l.disk.Blocks() {
		panic(api.ErrRaw)
	}
	return h
}

// apply gives the blocks that a head names the bytes that stand aside for them.
func (l *Ledger) apply(h head) {
	for i, at := range h.ats {
		l.write(api.Log+at, l.read(h.aside(i)))
	}
	l.flush()
}

// wipe makes blocks of the disk noughts, up to the one at to.
func (l *Ledger) wipe(from, to int) {
	noughts := make([]byte, api.Block)
	for at := from; at < to; at++ {
		l.write(at, noughts)
	}
	l.flush()
}

// read tells a block of the disk.
func (l *Ledger) read(at int) []byte {
	b, e := l.disk.Read(at)
	must(e)
	return b
}

// write gives a block of the disk its bytes, if it has others.
func (l *Ledger) write(at int, b []byte) {
	if bytes.Equal(l.read(at), b) {
		return
	}
	e := l.disk.Write(at, b)
	if e == api.ErrLong {
		// Others have left no room for a write to be held back. No flush comes too early: what may not be fast yet is not written yet.
		l.flush()
		e = l.disk.Write(at, b)
	}
	must(e)
}

func (l *Ledger) flush() { must(l.disk.Flush()) }

// power gives up where there is none.
func (l *Ledger) power() {
	if !l.disk.On() {
		panic(api.ErrOff)
	}
}

// must gives up at an error.
func must(e api.Errno) {
	if e != api.OK {
		panic(e)
	}
}
