package view

import (
	"slices"

	"lagoon/api"
	"lagoon/clash"
)

// kids gives the kids of a directory, and how they are shown.
func (v *View) kids(dir api.ID) ([]api.ID, []string) {
	ids := v.tree.Kids(dir)
	names := make([]string, len(ids))
	for i, id := range ids {
		_, names[i], _ = v.tree.Parent(id)
	}
	return ids, clash.Shown(ids, names)
}

// namesakes gives the kids of a directory whose own name it is, and how they are shown: kids with other names have no say in that.
func (v *View) namesakes(dir api.ID, name string) ([]api.ID, []string) {
	var ids []api.ID
	var names []string
	for _, id := range v.tree.Kids(dir) {
		if _, own, _ := v.tree.Parent(id); own == name {
			ids, names = append(ids, id), append(names, own)
		}
	}
	return ids, clash.Shown(ids, names)
}

// kid gives the kid of a directory that is shown so.
func (v *View) kid(dir api.ID, shown string) (api.ID, bool) {
	own, _, _ := clash.Split(shown)
	ids, all := v.namesakes(dir, own)
	at := slices.Index(all, shown)
	if at < 0 {
		return api.ID{}, false
	}
	return ids[at], true
}

// shown tells how the kid of a directory is shown that has that name as its own.
func (v *View) shown(dir, kid api.ID, own string) string {
	ids, all := v.namesakes(dir, own)
	return all[slices.Index(ids, kid)]
}
