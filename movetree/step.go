package movetree

import (
	"strings"

	"lagoon/api"
)

// step is an operation as the tree keeps it: how it is done, which tells whether it did something, and how that is undone. It is undone when all later ones are, so it finds the tree as it left it.
type step struct {
	stamp api.ID
	do    func() bool
	undo  func()
	did   bool
}

// run does the step, and tells whether it did something.
func (s *step) run() bool {
	s.did = s.do()
	return s.did
}

// runBack undoes what the step did, and tells whether that was something.
func (s *step) runBack() bool {
	if s.did {
		s.undo()
	}
	return s.did
}

// stepOf gives the step of an operation that may be. It keeps no more of it than it needs to be done, its name as a text of its own.
func (t *Tree) stepOf(o api.Op) *step {
	name := strings.Clone(o.Name)
	switch o.Kind {
	case api.KDir, api.KFile:
		made := &object{id: o.Obj, dir: o.Kind == api.KDir}
		m := &making{tree: t, made: made, parent: o.Parent, name: name}
		return &step{stamp: o.Stamp, do: m.do, undo: m.undo}
	case api.KMove:
		m := &moving{tree: t, obj: o.Obj, parent: o.Parent, name: name}
		return &step{stamp: o.Stamp, do: m.do, undo: m.undo}
	}
	w := writing{}
	return &step{stamp: o.Stamp, do: w.do, undo: w.undo}
}

// making makes an object.
type making struct {
	tree   *Tree
	made   *object
	parent api.ID
	name   string
}

// do need not ask whether the object is there, for its ID is the stamp, so no other operation makes it; nor whether the parent is the trash, for then the operation may not be.
func (m *making) do() bool {
	parent := m.tree.objects[m.parent]
	if parent == nil || !parent.dir {
		return false
	}
	m.tree.objects[m.made.id] = m.made
	m.made.put(place{up: parent, name: m.name})
	return true
}

func (m *making) undo() {
	m.made.put(place{})
	delete(m.tree.objects, m.made.id)
}

// moving gives an object another parent and name.
type moving struct {
	tree        *Tree
	obj, parent api.ID
	name        string
	from        place // where the object stood
}

func (m *moving) do() bool {
	obj, parent := m.tree.objects[m.obj], m.tree.objects[m.parent]
	if obj == nil || parent == nil || !parent.dir || parent == obj || parent.isBelow(obj) {
		return false
	}
	m.from = obj.place
	obj.put(place{up: parent, name: m.name})
	return true
}

func (m *moving) undo() {
	m.tree.objects[m.obj].put(m.from)
	m.from = place{}
}

// writing is no business of the tree's: it does all that it is to do, which is nothing.
type writing struct{}

func (writing) do() bool { return true }

func (writing) undo() {}
