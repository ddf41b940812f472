package emit

import "shunt/api"

// What is new has these modes until it has its own: nobody else gets at it.
const (
	dirMode  = 448
	fileMode = 384
)

// instructions are those of one action.
func instructions(act api.Act) []api.Ins {
	ins := bare(act)
	at, mode := act.Path, dirMode // of what is new
	switch act.Op {
	case api.OpRename:
		return gather(api.Ins{Op: api.OpLink, Path: act.Path, To: act.To}, api.Ins{Op: api.OpUnlink, Path: act.Path})
	case api.OpCopy:
		at = act.To
		fallthrough
	case api.OpWrite:
		mode = fileMode
		fallthrough
	case api.OpMkdir:
		if act.Mode == mode {
			break
		}
		ins.Mode = mode
		return gather(ins, api.Ins{Op: api.OpChmod, Path: at, Mode: act.Mode})
	}
	return gather(ins)
}

// bare is an action with the fields that its Op has alone.
func bare(act api.Act) api.Ins {
	ins := api.Ins{Op: act.Op, Path: act.Path}
	switch act.Op {
	case api.OpWrite:
		ins.Ref = act.Ref
		fallthrough
	case api.OpMkdir, api.OpChmod:
		ins.Mode = act.Mode
	case api.OpCopy:
		ins.Mode = act.Mode
		fallthrough
	case api.OpRename, api.OpLink:
		ins.To = act.To
	}
	return ins
}

// gather tells these instructions, and a sync behind them.
func gather(list ...api.Ins) []api.Ins {
	return append(list, api.Ins{Op: api.OpSync})
}
