package vfs

import (
	"bytes"
	"slices"

	"lagoon/api"
	"lagoon/ops"
	"lagoon/vector"
)

// The drafts of operations: what they do, without what says when, and by whom.

func makeDir(parent api.ID, name string) api.Op {
	return api.Op{Kind: api.KDir, Parent: parent, Name: name}
}

func makeFile(parent api.ID, name string) api.Op {
	return api.Op{Kind: api.KFile, Parent: parent, Name: name}
}

func moveTo(obj, parent api.ID, name string) api.Op {
	return api.Op{Kind: api.KMove, Obj: obj, Parent: parent, Name: name}
}

func writeTo(obj api.ID, data []byte) api.Op {
	return api.Op{Kind: api.KWrite, Obj: obj, Data: data}
}

// removal moves the object to the trash. It keeps its own name there, which may be another one than is shown.
func (t *turn) removal(obj api.ID) api.Op {
	_, own, _ := t.view.Where(obj)
	return moveTo(obj, ops.Trash(), own)
}

// change makes operations of the drafts: all of them, or none.
func (t *turn) change(drafts ...api.Op) api.Errno {
	os, e := t.stamped(drafts)
	if e != api.OK {
		return e
	}
	if !areFit(t.fits, os) {
		return api.ENOSPC
	}
	for _, o := range os {
		if e := t.apply(o); e != api.OK {
			return e
		}
	}
	t.made = os
	return api.OK
}

// stamped gives the drafts as the node's next operations, each of which has seen those ahead of it.
func (t *turn) stamped(drafts []api.Op) ([]api.Op, api.Errno) {
	seen := t.seen
	os := make([]api.Op, len(drafts))
	for i, o := range drafts {
		id, _, e := t.clock.Next()
		if e != api.OK {
			return nil, e
		}
		if o.Kind == api.KDir || o.Kind == api.KFile {
			o.Obj = id
		}
		o.Stamp, o.Seq, o.Seen = id, vector.At(seen, t.node)+1, vector.Norm(seen)
		if !ops.May(o) { // the clock is another node's
			return nil, api.EINVAL
		}
		os[i], seen = o, vector.With(seen, t.node, o.Seq)
	}
	return os, api.OK
}

// areFit asks fits, which gets copies to do with as it likes. One that panics has not said true.
func areFit(fits func(os ...api.Op) bool, os []api.Op) (yes bool) {
	if fits == nil {
		return true
	}
	defer func() { _ = recover() }()
	return fits(copies(os)...)
}

func copies(os []api.Op) []api.Op {
	all := slices.Clone(os)
	for i, o := range all {
		all[i].Data, all[i].Seen = bytes.Clone(o.Data), slices.Clone(o.Seen)
	}
	return all
}
