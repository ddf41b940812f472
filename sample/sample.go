// Package sample has trees, actions, instructions, contents and lists of numbers for the tests of the other packages; no layer calls it.
package sample

import (
	"strconv"
	"strings"

	"shunt/api"
	"shunt/tree"
)

// Test is what is told of words that are none.
type Test interface {
	Helper()
	Fatalf(format string, args ...any)
}

// Tree is a right tree by words: "a/" is a directory, "a=x" a file of its own with these bytes, "b>a" one more name of a's file. Behind a colon stands the mode of the first two; else it is 493, or 420.
func Tree(t Test, words string) api.Tree {
	t.Helper()
	var x api.Tree
	numbers := map[string]int{}
	for _, word := range strings.Fields(words) {
		n := api.Node{File: -1}
		w, mode, turned := strings.Cut(word, ":")
		if dir, ok := strings.CutSuffix(w, "/"); ok {
			n.Path, n.Mode = dir, 493
			if turned {
				n.Mode = number(t, mode)
			}
		} else if p, first, ok := strings.Cut(w, ">"); ok {
			n.Path, n.File = p, numbers[first]
		} else {
			p, data, _ := strings.Cut(w, "=")
			f := api.File{Mode: 420, Data: []byte(data)}
			if turned {
				f.Mode = number(t, mode)
			}
			n.Path, n.File = p, len(x.Files)
			x.Files = append(x.Files, f)
		}
		numbers[n.Path] = n.File
		x.Nodes = append(x.Nodes, n)
	}
	return right(t, x)
}

// Acts are actions by words, with "; " between: "unlink a", "rmdir a", "mkdir a 493", "rename a b", "write a 420 0" (from that place), "copy a b 420", "link a b", "chmod a 420".
func Acts(t Test, words string) []api.Act {
	t.Helper()
	var list []api.Act
	for _, words := range strings.Split(words, "; ") {
		if w := strings.Fields(words); len(w) > 0 {
			list = append(list, read(t, w))
		}
	}
	return list
}

// Ins are instructions by words, as Acts has them, and "sync".
func Ins(t Test, words string) []api.Ins {
	t.Helper()
	var list []api.Ins
	for _, words := range strings.Split(words, "; ") {
		if words == "sync" {
			list = append(list, api.Ins{Op: api.OpSync})
			continue
		}
		list = append(list, Acts(t, words)...)
	}
	return list
}

// read is one action by its words.
func read(t Test, w []string) api.Act {
	t.Helper()
	switch w[0] + " " + strconv.Itoa(len(w)) {
	case "unlink 2":
		return api.Act{Op: api.OpUnlink, Path: w[1]}
	case "rmdir 2":
		return api.Act{Op: api.OpRmdir, Path: w[1]}
	case "mkdir 3":
		return api.Act{Op: api.OpMkdir, Path: w[1], Mode: number(t, w[2])}
	case "rename 3":
		return api.Act{Op: api.OpRename, Path: w[1], To: w[2]}
	case "write 4":
		return api.Act{Op: api.OpWrite, Path: w[1], Mode: number(t, w[2]), Ref: number(t, w[3])}
	case "copy 4":
		return api.Act{Op: api.OpCopy, Path: w[1], To: w[2], Mode: number(t, w[3])}
	case "link 3":
		return api.Act{Op: api.OpLink, Path: w[1], To: w[2]}
	case "chmod 3":
		return api.Act{Op: api.OpChmod, Path: w[1], Mode: number(t, w[2])}
	}
	t.Fatalf("no action: %q", w)
	return api.Act{}
}

// number is the number that a text is.
func number(t Test, text string) int {
	t.Helper()
	n, err := strconv.Atoi(text)
	if err != nil {
		t.Fatalf("no number: %q", text)
	}
	return n
}

// right is x put in order, which has to be right then.
func right(t Test, x api.Tree) api.Tree {
	t.Helper()
	c, e := tree.Canon(x)
	if e != api.OK || tree.Check(c) != api.OK {
		t.Fatalf("no right tree: %v: %v", x, e)
	}
	return c
}

// Contents is a list of these texts, as a stock is one.
func Contents(texts ...string) [][]byte {
	var list [][]byte
	for _, b := range texts {
		list = append(list, []byte(b))
	}
	return list
}

// Texts are contents as texts.
func Texts(contents [][]byte) []string {
	var list []string
	for _, b := range contents {
		list = append(list, string(b))
	}
	return list
}
