package vfs

import "lagoon/api"

func (t *turn) truncate() api.Errno {
	file, e := t.findFile(t.call.Path)
	switch {
	case e != api.OK:
		return e
	case t.call.N < 0:
		return api.EINVAL
	case t.call.N > api.MaxFile:
		return api.EFBIG
	case t.call.N == file.Size:
		return api.OK
	}
	b, _ := t.view.Read(file.Obj)
	return t.change(writeTo(file.Obj, resized(b, t.call.N)))
}

func (t *turn) conflicts() api.Errno {
	file, e := t.findFile(t.call.Path)
	if e != api.OK {
		return e
	}
	heads, e := t.view.Heads(file.Obj)
	for _, v := range heads {
		t.result.List = append(t.result.List, api.Entry{Obj: v.Stamp, Size: len(v.Data)})
	}
	return e
}

// resolve writes one head once more: the new version has seen all of them.
func (t *turn) resolve() api.Errno {
	file, e := t.findFile(t.call.Path)
	switch {
	case e != api.OK:
		return e
	case t.call.N < 0 || t.call.N >= file.Heads:
		return api.EINVAL
	case file.Heads == 1:
		return api.OK
	}
	heads, _ := t.view.Heads(file.Obj)
	return t.change(writeTo(file.Obj, heads[t.call.N].Data))
}
