package vfs

import "lagoon/api"

// turn is one call on a machine, and what comes of it. What stands in the result beside an error is not told.
type turn struct {
	*FS
	call   api.Call
	fits   func(os ...api.Op) bool
	result api.Result
	made   []api.Op
}

// do does what the call's function does.
func (t *turn) do() api.Errno {
	all := functions()
	fn := t.call.Fn
	if fn < 0 || fn >= len(all) || all[fn] == nil {
		return api.EINVAL
	}
	return all[fn](t)
}

// functions gives the functions of the calls by their numbers.
func functions() []func(t *turn) api.Errno {
	return []func(t *turn) api.Errno{
		api.COpen:      (*turn).open,
		api.CRead:      (*turn).read,
		api.CWrite:     (*turn).write,
		api.CSeek:      (*turn).seek,
		api.CClose:     (*turn).close,
		api.CMkdir:     (*turn).mkdir,
		api.CRmdir:     (*turn).rmdir,
		api.CUnlink:    (*turn).unlink,
		api.CRename:    (*turn).rename,
		api.CReaddir:   (*turn).readdir,
		api.CStat:      (*turn).stat,
		api.CSync:      (*turn).sync,
		api.CLink:      (*turn).link,
		api.CTruncate:  (*turn).truncate,
		api.CConflicts: (*turn).conflicts,
		api.CResolve:   (*turn).resolve,
	}
}

// sync changes nothing here: whoever keeps the operations sees to it.
func (t *turn) sync() api.Errno { return api.OK }

// link is refused, as each object has one parent.
func (t *turn) link() api.Errno { return api.EPERM }
