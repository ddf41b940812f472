package order

import (
	"shunt/api"
	"shunt/model"
	"shunt/path"
	"shunt/tree"
)

// thing is a directory or a file, as far as it weighs something.
type thing struct {
	dir   bool
	size  int // bytes; of a directory the names in it
	names int // a directory has one, the root none
}

func (x *thing) weight() complex128 {
	if x.dir {
		return tree.DirWeight(x.size)
	}
	return tree.FileWeight(x.size)
}

// move is what an action does to a tree's names: one goes, or one comes, or both, of one thing. An empty path is none.
type move struct {
	gone, come string
	of         *thing
}

// back is the move by which all is again as it was.
func (m move) back() move { return move{gone: m.come, come: m.gone, of: m.of} }

// scale is a tree and its weight, such that what an action makes of both is soon told, and soon undone.
type scale struct {
	things map[string]*thing // by their paths; the root, too
	weight complex128
}

// lay lays a loose tree on a scale.
func lay(t api.Tree) *scale {
	root := &thing{dir: true}
	s := &scale{things: map[string]*thing{"": root}, weight: root.weight()}
	files := make([]thing, len(t.Files))
	for i, f := range t.Files {
		files[i].size = len(f.Data)
	}
	for _, n := range t.Nodes {
		x := &thing{dir: true}
		if n.File >= 0 {
			x = &files[n.File]
		}
		s.put(n.Path, x)
	}
	return s
}

// growth tells by how much the tree grows by an action.
func (s *scale) growth(act api.Act, stock [][]byte) complex128 {
	was, m := s.weight, s.move(act, stock)
	s.do(m)
	growth := s.weight - was
	s.do(m.back())
	return growth
}

// move tells what an action does to the tree; nothing, if the tree refuses it.
func (s *scale) move(act api.Act, stock [][]byte) move {
	if s.view().Refuses(act, stock) != api.OK {
		return move{}
	}
	there := s.things[act.Path]
	switch act.Op {
	case api.OpMkdir:
		return move{come: act.Path, of: &thing{dir: true}}
	case api.OpWrite:
		return move{come: act.Path, of: &thing{size: len(stock[act.Ref])}}
	case api.OpCopy:
		return move{come: act.To, of: &thing{size: there.size}}
	case api.OpLink:
		return move{come: act.To, of: there}
	case api.OpRename:
		return move{gone: act.Path, come: act.To, of: there}
	case api.OpRmdir, api.OpUnlink:
		return move{gone: act.Path, of: there}
	}
	return move{} // modes weigh nothing
}

// view tells what is there to those who ask what is refused.
func (s *scale) view() model.View {
	at := func(p string) model.There {
		x := s.things[p]
		switch {
		case x == nil:
			return model.There{}
		case x.dir:
			return model.There{Kind: api.KindDir, Filled: x.size > 0}
		}
		return model.There{Kind: api.KindFile}
	}
	return model.View{Nodes: len(s.things) - 1, At: at}
}

func (s *scale) do(m move) {
	if m.gone != "" {
		s.drop(m.gone)
	}
	if m.come != "" {
		s.put(m.come, m.of)
	}
}

// put gives a thing one more name.
func (s *scale) put(p string, x *thing) {
	if x.names == 0 {
		s.weight += x.weight()
	}
	x.names++
	s.things[p] = x
	s.fill(path.Parent(p), 1)
}

// drop takes a name away.
func (s *scale) drop(p string) {
	x := s.things[p]
	x.names--
	if x.names == 0 {
		s.weight -= x.weight()
	}
	delete(s.things, p)
	s.fill(path.Parent(p), -1)
}

// fill has a directory hold so many names more.
func (s *scale) fill(p string, more int) {
	dir := s.things[p]
	s.weight -= dir.weight()
	dir.size += more
	s.weight += dir.weight()
}
