package diff

import (
	"slices"

	"shunt/api"
)

// side is a right tree by its paths. All lists rise.
type side struct {
	paths, dirs, names []string
	modes              map[string]int // of the directories
	files              map[string]int // of the names
	named              [][]string     // of each file its names
}

// look tells a tree by its paths.
func look(t api.Tree) side {
	x := side{modes: map[string]int{}, files: map[string]int{}, named: make([][]string, len(t.Files))}
	for _, n := range t.Nodes {
		x.paths = append(x.paths, n.Path)
		if n.File < 0 { // of a right tree just those of directories
			x.modes[n.Path] = n.Mode
			continue
		}
		x.files[n.Path] = n.File
		x.named[n.File] = append(x.named[n.File], n.Path)
	}
	x.dirs, x.names = part(x.paths, x.modes)
	return x
}

// move is a rename: the name that the file has in the source.
type move struct{ from string }

// change is what becomes of a tree on its way to another one.
type change struct {
	old, goal side

	// Of the goal's files, by their numbers:
	files   []api.File
	sources []api.Source
	anchors []string

	used  map[string]struct{} // the names of the source that stay, and those that are renamed
	there map[string]struct{} // the names of the goal that come to be there without a link
	moves map[string]move     // what is renamed, by its name in the goal
	turns map[string]int      // the modes that are other ones, by the directories and by the files' first names
}

// compare tells what becomes of s on its way to t, whose files come from there.
func compare(s, t api.Tree, sources []api.Source) *change {
	c := &change{
		old: look(s), goal: look(t), files: t.Files, sources: sources,
		used: map[string]struct{}{}, there: map[string]struct{}{}, moves: map[string]move{}, turns: map[string]int{},
	}
	for p, mode := range c.goal.modes {
		if was, ok := c.old.modes[p]; ok && was != mode {
			c.turns[p] = mode
		}
	}
	for file, source := range sources {
		names := c.goal.named[file]
		if source.Kind != api.Keep {
			c.anchors = append(c.anchors, names[0])
			put(c.there, names[0])
			continue
		}
		c.anchors = append(c.anchors, c.keep(c.old.named[source.File], names))
		if mode := t.Files[file].Mode; mode != s.Files[source.File].Mode {
			c.turns[names[0]] = mode
		}
	}
	return c
}

// keep tells the anchor of a file that had the old names and comes to have the others. What it is left without pairs off with what it gets, as far as both go.
func (c *change) keep(old, names []string) string {
	stay, left := part(old, set(names))
	_, come := part(names, set(old))
	for i := range min(len(left), len(come)) {
		c.moves[come[i]] = move{from: left[i]}
		put(c.used, left[i])
		put(c.there, come[i])
	}
	put(c.used, stay...)
	put(c.there, stay...)
	// Where nothing stays, there is something left and something new: the first new name is that of a pair.
	return slices.Concat(stay, come)[0]
}

// put puts names into a set.
func put[N comparable](names map[N]struct{}, more ...N) {
	for _, n := range more {
		names[n] = struct{}{}
	}
}

// set is the set of these names.
func set[N comparable](names []N) map[N]struct{} {
	s := map[N]struct{}{}
	put(s, names...)
	return s
}

// part tells which of these names are in a set, and which are not, in their order.
func part[N comparable, V any](names []N, in map[N]V) (are, others []N) {
	for _, n := range names {
		if _, ok := in[n]; ok {
			are = append(are, n)
		} else {
			others = append(others, n)
		}
	}
	return are, others
}
