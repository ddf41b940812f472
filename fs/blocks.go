package fs

import (
	"maps"
	"slices"

	"shunt/api"
	"shunt/ledger"
	"shunt/toll"
)

// Of the ledger's blocks the first ones tell what the others hold; the room's blocks stand behind the inodes.
const (
	headAt  = 0 // how the disk was formatted
	usedAt  = 1 // of each block of the room a bit: is it used?
	tableAt = 2 // the inodes
)

// use is what the tree takes.
type use struct {
	weight complex128
	nodes  int
}

// blocks are a ledger's blocks, as the call that is going on has them: what it changes is gathered, to be committed at one time.
type blocks struct {
	use
	ledger  *ledger.Ledger
	room    complex128
	changed map[int][]byte
	fault   api.Errno // why the call can't be done; what it changes is lost then
}

// read tells a block, to be looked at only.
func (b *blocks) read(at int) []byte {
	if block, ok := b.changed[at]; ok {
		return block
	}
	block, e := b.ledger.Read(at)
	if e != api.OK {
		b.fail(e)
		return make([]byte, api.Block)
	}
	return block
}

// edit tells a block that the call may change.
func (b *blocks) edit(at int) []byte {
	if _, ok := b.changed[at]; !ok {
		b.changed[at] = b.read(at)
	}
	return b.changed[at]
}

// commit makes what was changed, all of it at one time.
func (b *blocks) commit() api.Errno {
	var puts []api.Put
	for _, at := range slices.Sorted(maps.Keys(b.changed)) {
		puts = append(puts, api.Put{At: at, Data: b.changed[at]})
	}
	if len(puts) == 0 {
		return api.OK
	}
	return b.ledger.Commit(puts)
}

// fail tells why the call can't be done; the first reason counts.
func (b *blocks) fail(e api.Errno) {
	if b.fault == api.OK {
		b.fault = e
	}
}

// charge puts a toll to what the tree takes, which must fit the room. A call gives back what it needs no more ahead of taking anything, so that no sum on the way is above both the first and the last one.
func (b *blocks) charge(t complex128) {
	b.weight += t
	if fits, _ := toll.Fits(b.weight, b.room); !fits {
		b.fail(api.ErrSpace)
	}
}

// count tells how many blocks the room has. They are numbered from 1 on.
func (b *blocks) count() int { return int(real(b.room)) }

// known tells the number of a block of the room, if k is one.
func (b *blocks) known(k int) int {
	if k < 1 || k > b.count() {
		b.fail(api.ErrRaw)
		return 1
	}
	return k
}

// stands tells where in the ledger the room's block k stands.
func (b *blocks) stands(k int) int { return b.ledger.Blocks() - b.count() + b.known(k) - 1 }

// take finds a block that is free, and uses it.
func (b *blocks) take() int {
	b.charge(1)
	used := b.edit(usedAt)
search:
	for i, bits := range used {
		for bit := range 8 {
			k := 8*i + bit + 1
			if k > b.count() {
				break search
			}
			if bits>>bit&1 == 0 {
				used[i] |= 1 << bit
				return k
			}
		}
	}
	// What fits the room finds a block, but on a disk that others have written to.
	b.fail(api.ErrRaw)
	return 1
}

// leave makes a block free.
func (b *blocks) leave(k int) {
	b.charge(-1)
	k = b.known(k) - 1
	b.edit(usedAt)[k/8] &^= 1 << (k % 8)
}
