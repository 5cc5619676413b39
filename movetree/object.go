package movetree

import (
	"slices"

	"lagoon/api"
	"lagoon/clock"
	"lagoon/ops"
)

// object is a directory or a file. The root and the trash are objects, too, which stand nowhere.
type object struct {
	place
	id   api.ID
	dir  bool
	kids []*object // by rising IDs
}

// place is where an object stands.
type place struct {
	up   *object
	name string
}

// bare gives what is there without any operation.
func bare() map[api.ID]*object {
	return map[api.ID]*object{
		ops.Root():  {id: ops.Root(), dir: true},
		ops.Trash(): {id: ops.Trash(), dir: true},
	}
}

// isBelow tells whether other is met on the way up.
func (o *object) isBelow(other *object) bool {
	for up := o.up; up != nil; up = up.up {
		if up == other {
			return true
		}
	}
	return false
}

// put brings the object from where it stands to the place; a place without a parent is nowhere.
func (o *object) put(to place) {
	if o.up != nil {
		at, _ := o.up.find(o.id)
		o.up.kids = slices.Delete(o.up.kids, at, at+1)
	}
	o.place = to
	if o.up != nil {
		at, _ := o.up.find(o.id)
		o.up.kids = slices.Insert(o.up.kids, at, o)
	}
}

// find gives the place of a kid, or where it would stand.
func (o *object) find(kid api.ID) (int, bool) {
	return slices.BinarySearchFunc(o.kids, kid, byID)
}

// byID holds an object's ID against another one.
func byID(o *object, id api.ID) int {
	return clock.Cmp(o.id, id)
}
