package tree

import (
	"shunt/api"
	"shunt/sum"
)

// Bytes tells a tree as bytes, which no other tree has.
func Bytes(t api.Tree) ([]byte, api.Errno) {
	if e := Loose(t); e != api.OK {
		return nil, e
	}
	b := word(nil, len(t.Nodes))
	for _, n := range t.Nodes {
		b = append(b, byte(len(n.Path)))
		b = append(b, n.Path...)
		b = word(b, n.File+1) // a directory's is 0
		b = word(b, n.Mode)
	}
	b = word(b, len(t.Files))
	for _, f := range t.Files {
		b = word(b, f.Mode)
		b = word(b, len(f.Data))
		b = append(b, f.Data...)
	}
	return b, api.OK
}

// Print tells a tree's fingerprint.
func Print(t api.Tree) (api.Digest, api.Errno) {
	b, e := Bytes(t)
	if e != api.OK {
		return api.Digest{}, e
	}
	return sum.SHA(b), api.OK
}

// word puts a number behind, in two bytes, the lowest one first.
func word(b []byte, n int) []byte { return append(b, byte(n), byte(n>>8)) }
