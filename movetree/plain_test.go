package movetree

import (
	"fmt"
	"slices"
	"sort"
	"strings"
	"testing"

	"lagoon/api"
	"lagoon/ops"
)

// What follows are the chapter's words, written down plainly, to hold the package against.

// spot is what a plain tree says of an object.
type spot struct {
	parent api.ID
	name   string
	dir    bool
}

// plain is a tree that is made anew of all operations.
type plain struct {
	there   map[api.ID]spot
	skipped int
}

func plainLess(a, b api.ID) bool {
	return a.Time < b.Time || a.Time == b.Time && a.Node < b.Node
}

// plainOf goes over the operations by rising stamps.
func plainOf(os []api.Op) plain {
	p := plain{there: map[api.ID]spot{}}
	os = slices.Clone(os)
	sort.Slice(os, func(i, j int) bool { return plainLess(os[i].Stamp, os[j].Stamp) })
	for _, o := range os {
		old, there := p.there[o.Obj]
		switch {
		case o.Kind == api.KWrite:
		case o.Kind != api.KMove && p.isDir(o.Parent) && o.Parent != ops.Trash() && !there:
			p.there[o.Obj] = spot{o.Parent, o.Name, o.Kind == api.KDir}
		case o.Kind == api.KMove && there && p.isDir(o.Parent) && o.Parent != o.Obj && !p.below(o.Parent, o.Obj):
			p.there[o.Obj] = spot{o.Parent, o.Name, old.dir}
		default:
			p.skipped++
		}
	}
	return p
}

func isFixed(id api.ID) bool { return id == ops.Root() || id == ops.Trash() }

func (p plain) has(id api.ID) bool {
	_, there := p.there[id]
	return there || isFixed(id)
}

func (p plain) isDir(id api.ID) bool { return p.there[id].dir || isFixed(id) }

func (p plain) below(a, b api.ID) bool {
	s, there := p.there[a]
	return there && (s.parent == b || p.below(s.parent, b))
}

func (p plain) live(id api.ID) bool { return id == ops.Root() || p.below(id, ops.Root()) }

func (p plain) kids(id api.ID) []api.ID {
	var kids []api.ID
	for kid, s := range p.there {
		if s.parent == id {
			kids = append(kids, kid)
		}
	}
	sort.Slice(kids, func(i, j int) bool { return plainLess(kids[i], kids[j]) })
	return kids
}

// pair is a tree and the operations that it took.
type pair struct {
	t    *testing.T
	what string
	tree *Tree
	os   []api.Op
}

func newPair(t *testing.T, what string) *pair {
	return &pair{t: t, what: what, tree: New()}
}

// apply applies operations one by one, and holds the answers against the words.
func (p *pair) apply(os ...api.Op) *pair {
	p.t.Helper()
	for _, o := range os {
		want, why := p.answer(o)
		if n, e := p.tree.Apply(o); n != want || e != why {
			p.t.Fatalf("%s: Apply(%.200v) = %d, %d; want %d, %d", p.what, fmt.Sprint(o), n, e, want, why)
		}
		if why == api.OK {
			p.os = append(p.os, o)
		}
	}
	return p
}

func (p *pair) answer(o api.Op) (int, api.Errno) {
	if !ops.May(o) {
		return 0, api.EINVAL
	}
	later := 0
	for _, k := range p.os {
		if k.Stamp == o.Stamp {
			return 0, api.EEXIST
		}
		if plainLess(o.Stamp, k.Stamp) {
			later++
		}
	}
	return later, api.OK
}

// ids has all that the operations speak of, what no operation makes, and what nothing may be.
func (p *pair) ids() []api.ID {
	ids := []api.ID{ops.Root(), ops.Trash(), {Node: 2}, {Node: -1}, {Time: -1}, {Time: 1 << 62, Node: 64}, {Time: 999}}
	for _, o := range p.os {
		for _, id := range []api.ID{o.Stamp, o.Obj, o.Parent} {
			if !slices.Contains(ids, id) {
				ids = append(ids, id)
			}
		}
	}
	return ids
}

// want holds all that the tree answers against the plain one.
func (p *pair) want() *pair {
	p.t.Helper()
	want, ids := plainOf(p.os), p.ids()
	if n, s := p.tree.Len(), p.tree.Skipped(); n != len(want.there) || s != want.skipped {
		p.t.Fatalf("%s: Len %d, Skipped %d; want %d, %d, of %v", p.what, n, s, len(want.there), want.skipped, p.os)
	}
	for _, a := range ids {
		p.wantOne(want, a)
		for _, b := range ids {
			if below := p.tree.Below(a, b); below != want.below(a, b) || below && a == b {
				p.t.Fatalf("%s: Below(%v, %v) = %v of %v", p.what, a, b, below, p.os)
			}
		}
	}
	return p
}

func (p *pair) wantOne(want plain, id api.ID) {
	p.t.Helper()
	if has, dir, live := p.tree.Has(id), p.tree.Dir(id), p.tree.Live(id); has != want.has(id) || dir != want.isDir(id) || live != want.live(id) {
		p.t.Fatalf("%s: of %v: Has %v, Dir %v, Live %v; want %v, %v, %v, of %v", p.what, id, has, dir, live, want.has(id), want.isDir(id), want.live(id), p.os)
	}
	s, there := want.there[id]
	if parent, name, ok := p.tree.Parent(id); ok != there || parent != s.parent || name != s.name {
		p.t.Fatalf("%s: Parent(%v) = %v, %q, %v; want %v, %q, %v, of %v", p.what, id, parent, name, ok, s.parent, s.name, there, p.os)
	}
	if kids := p.tree.Kids(id); !slices.Equal(kids, want.kids(id)) {
		p.t.Fatalf("%s: Kids(%v) = %v, want %v, of %v", p.what, id, kids, want.kids(id), p.os)
	}
}

// The operations of a test. The tree does not ask how a node counts its own, so each is its node's first one.

func id(time int64, node int) api.ID { return api.ID{Time: time, Node: node} }

// at gives the stamp of a time, of the node 0.
func at(time int64) api.ID { return id(time, 0) }

func dir(stamp, parent api.ID, name string) api.Op {
	return api.Op{Stamp: stamp, Seq: 1, Kind: api.KDir, Obj: stamp, Parent: parent, Name: name}
}

func file(stamp, parent api.ID, name string) api.Op {
	return api.Op{Stamp: stamp, Seq: 1, Kind: api.KFile, Obj: stamp, Parent: parent, Name: name}
}

func move(stamp, obj, parent api.ID, name string) api.Op {
	return api.Op{Stamp: stamp, Seq: 1, Kind: api.KMove, Obj: obj, Parent: parent, Name: name}
}

func write(stamp, obj api.ID, data string) api.Op {
	return api.Op{Stamp: stamp, Seq: 1, Kind: api.KWrite, Obj: obj, Data: []byte(data)}
}

// The objects of base.
var a, b, c, f, d = at(1), at(2), at(3), at(4), at(5)

// base makes a(b(c()) f) d().
func base() []api.Op {
	return []api.Op{dir(a, ops.Root(), "a"), dir(b, a, "b"), dir(c, b, "c"), file(f, a, "f"), dir(d, ops.Root(), "d")}
}

// shape tells what is below an object: names by rising IDs, what is below a directory in brackets.
func shape(tree *Tree, id api.ID) string {
	var all []string
	for _, kid := range tree.Kids(id) {
		_, name, _ := tree.Parent(kid)
		if tree.Dir(kid) {
			name += "(" + shape(tree, kid) + ")"
		}
		all = append(all, name)
	}
	return strings.Join(all, " ")
}

// wantShape holds the tree against what is below the root and, behind a bar, below the trash.
func wantShape(t *testing.T, what string, tree *Tree, want string) {
	t.Helper()
	if got := shape(tree, ops.Root()) + "|" + shape(tree, ops.Trash()); got != want {
		t.Errorf("%s: %s, want %s", what, got, want)
	}
}

// noise gives numbers that hang on where it began alone.
type noise uint64

func (n *noise) below(limit int) int {
	*n = *n*6364136223846793005 + 1442695040888963407
	return int(*n>>33) % limit
}

// shuffled gives the operations in some order.
func (n *noise) shuffled(os []api.Op) []api.Op {
	os = slices.Clone(os)
	for i := range os {
		j := i + n.below(len(os)-i)
		os[i], os[j] = os[j], os[i]
	}
	return os
}

// orders gives each order of the operations.
func orders(os []api.Op) [][]api.Op {
	if len(os) == 0 {
		return [][]api.Op{nil}
	}
	var all [][]api.Op
	for _, rest := range orders(os[1:]) {
		for i := range len(rest) + 1 {
			all = append(all, slices.Insert(slices.Clone(rest), i, os[0]))
		}
	}
	return all
}

// some are orders of many operations: by rising stamps, by falling ones, and such as they come.
func some(os []api.Op) [][]api.Op {
	rising := slices.Clone(os)
	sort.Slice(rising, func(i, j int) bool { return plainLess(rising[i].Stamp, rising[j].Stamp) })
	falling := slices.Clone(rising)
	slices.Reverse(falling)
	all := [][]api.Op{rising, falling}
	n := noise(len(os))
	for range 10 {
		all = append(all, n.shuffled(os))
	}
	return all
}
