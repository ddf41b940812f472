package ledger

import (
	"strings"

	"shunt/api"
)

// mark begins the head of a disk that was formatted.
const mark = "shunt's ledger, 1\n"

// head is the block that tells what was committed last: to which blocks, and on which side their bytes stand aside.
type head struct {
	blocks int // of the disk
	side   int // 0 or 1
	ats    []int
}

// aside tells where on the disk the bytes of the head's i-th block stand aside.
func (h head) aside(i int) int { return headAt + 1 + h.side*api.MaxPuts + i }

// bytes tells the head as a block: mark, blocks, side, how many ats, these, and noughts. Numbers have two bytes, the lowest first, but side and how many one each.
func (h head) bytes() []byte {
	b := make([]byte, 0, api.Block)
	b = append(b, mark...)
	b = append(b, two(h.blocks)...)
	b = append(b, byte(h.side), byte(len(h.ats)))
	for _, at := range h.ats {
		b = append(b, two(at)...)
	}
	return append(b, make([]byte, api.Block-len(b))...)
}

// parse reads a head from a block, or tells that it is none.
func parse(b []byte) (head, bool) {
	var h head
	var left, at int
	rest, ok := strings.CutPrefix(string(b), mark)
	if !ok {
		goto none
	}
	h.blocks, rest = number(rest)
	h.side, left, rest = int(rest[0]), int(rest[1]), rest[2:]
	if h.side > 1 || left > api.MaxPuts {
		goto none
	}
next:
	if left == 0 {
		goto end
	}
	at, rest = number(rest)
	if at >= h.blocks-api.Log {
		goto none
	}
	h.ats = append(h.ats, at)
	left--
	goto next
end:
	if strings.Trim(rest, "\x00") != "" {
		goto none
	}
	return h, true
none:
	return head{}, false
}

// two tells a number as two bytes, the lowest first.
func two(n int) []byte { return []byte{byte(n), byte(n >> 8)} }

// number reads a number of two bytes, and tells what is behind it.
func number(b string) (int, string) { return int(b[0]) | int(b[1])<<8, b[2:] }
