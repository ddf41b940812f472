package diff

import "shunt/api"

// groups are the kinds of actions, in the order in which they are told.
func (c *change) groups() []group {
	return []group{c.unlinks, c.rmdirs, c.mkdirs, c.renames, c.makes, c.links, c.chmods}
}

func (c *change) unlinks(acts chan<- api.Act) {
	_, gone := part(c.old.names, c.used)
	for _, p := range gone {
		acts <- api.Act{Op: api.OpUnlink, Path: p}
	}
}

func (c *change) rmdirs(acts chan<- api.Act) {
	_, gone := part(c.old.dirs, c.goal.modes)
	for _, p := range gone {
		acts <- api.Act{Op: api.OpRmdir, Path: p}
	}
}

func (c *change) mkdirs(acts chan<- api.Act) {
	_, come := part(c.goal.dirs, c.old.modes)
	for _, p := range come {
		acts <- api.Act{Op: api.OpMkdir, Path: p, Mode: c.goal.modes[p]}
	}
}

func (c *change) renames(acts chan<- api.Act) {
	come, _ := part(c.goal.names, c.moves)
	for _, p := range come {
		acts <- api.Act{Op: api.OpRename, Path: c.moves[p].from, To: p}
	}
}

// makes tells of the files that are not kept: their numbers rise as their first names do.
func (c *change) makes(acts chan<- api.Act) {
	for file, source := range c.sources {
		name, mode := c.goal.named[file][0], c.files[file].Mode
		switch source.Kind {
		case api.New:
			acts <- api.Act{Op: api.OpWrite, Path: name, Mode: mode, Ref: source.Ref}
		case api.Copy:
			acts <- api.Act{Op: api.OpCopy, Path: c.anchors[source.File], To: name, Mode: mode}
		}
	}
}

func (c *change) links(acts chan<- api.Act) {
	_, more := part(c.goal.names, c.there)
	for _, p := range more {
		acts <- api.Act{Op: api.OpLink, Path: c.anchors[c.goal.files[p]], To: p}
	}
}

func (c *change) chmods(acts chan<- api.Act) {
	turned, _ := part(c.goal.paths, c.turns)
	for _, p := range turned {
		acts <- api.Act{Op: api.OpChmod, Path: p, Mode: c.turns[p]}
	}
}
