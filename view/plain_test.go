package view

import (
	"bytes"
	"fmt"
	"slices"
	"sort"
	"strings"
	"testing"

	"lagoon/api"
	"lagoon/ops"
)

// What follows are the chapter's words, and those of the chapters that it calls, written down plainly, to hold the package against.

func plainLess(a, b api.ID) bool {
	return a.Time < b.Time || a.Time == b.Time && a.Node < b.Node
}

func byStamp(os []api.Op) []api.Op {
	os = slices.Clone(os)
	sort.Slice(os, func(i, j int) bool { return plainLess(os[i].Stamp, os[j].Stamp) })
	return os
}

// spot is where an object stands.
type spot struct {
	parent api.ID
	name   string
	dir    bool
}

// plain is a view that is made anew of all operations.
type plain struct {
	there map[api.ID]spot
	os    []api.Op // by rising stamps
}

func plainOf(os []api.Op) plain {
	p := plain{there: map[api.ID]spot{}, os: byStamp(os)}
	for _, o := range p.os {
		old, there := p.there[o.Obj]
		switch {
		case o.Kind == api.KWrite || !p.dir(o.Parent):
		case o.Kind != api.KMove && !there:
			p.there[o.Obj] = spot{o.Parent, o.Name, o.Kind == api.KDir}
		case o.Kind == api.KMove && there && o.Parent != o.Obj && !p.below(o.Parent, o.Obj):
			p.there[o.Obj] = spot{o.Parent, o.Name, old.dir}
		}
	}
	return p
}

func (p plain) dir(id api.ID) bool {
	return p.there[id].dir || id == ops.Root() || id == ops.Trash()
}

func (p plain) below(a, b api.ID) bool {
	s, there := p.there[a]
	return there && (s.parent == b || p.below(s.parent, b))
}

func (p plain) live(id api.ID) bool { return id == ops.Root() || p.below(id, ops.Root()) }

// shown tells how the object is shown where it stands.
func (p plain) shown(id api.ID) string {
	s := p.there[id]
	for other, k := range p.there {
		if k.parent == s.parent && k.name == s.name && plainLess(other, id) {
			return fmt.Sprintf("%s\x01%d.%d", s.name, id.Time, id.Node)
		}
	}
	return s.name
}

func (p plain) walk(path []string) (api.ID, api.Errno) {
	at := ops.Root()
next:
	for _, name := range path {
		if !p.dir(at) {
			return api.ID{}, api.ENOTDIR
		}
		for id, s := range p.there {
			if s.parent == at && p.shown(id) == name {
				at = id
				continue next
			}
		}
		return api.ID{}, api.ENOENT
	}
	return at, api.OK
}

func (p plain) list(id api.ID) ([]api.Entry, api.Errno) {
	if !p.live(id) {
		return nil, api.ENOENT
	}
	if !p.dir(id) {
		return nil, api.ENOTDIR
	}
	var all []api.Entry
	for kid, s := range p.there {
		if s.parent == id {
			all = append(all, api.Entry{Name: p.shown(kid), Obj: kid, Dir: s.dir, Size: len(p.value(kid))})
		}
	}
	sort.Slice(all, func(i, j int) bool { return bytes.Compare([]byte(all[i].Name), []byte(all[j].Name)) < 0 })
	return all, api.OK
}

func plainAt(v api.Vector, node int) int64 {
	if node >= len(v) {
		return 0
	}
	return v[node]
}

// heads holds each write to a file against all others.
func (p plain) heads(id api.ID) []api.Version {
	var heads []api.Version
	for _, o := range p.os {
		isHead := o.Kind == api.KWrite && o.Obj == id && !p.dir(id)
		for _, k := range p.os {
			if k.Kind == api.KWrite && k.Obj == id && k.Stamp != o.Stamp && plainAt(k.Seen, o.Stamp.Node) >= o.Seq {
				isHead = false
			}
		}
		if isHead {
			heads = append(heads, api.Version{Stamp: o.Stamp, Seq: o.Seq, Seen: o.Seen, Data: o.Data})
		}
	}
	return heads
}

func (p plain) value(id api.ID) []byte {
	heads := p.heads(id)
	if len(heads) == 0 {
		return nil
	}
	return heads[len(heads)-1].Data
}

// path has the names from the root on.
func (p plain) path(id api.ID) []string {
	if id == ops.Root() {
		return nil
	}
	return append(p.path(p.there[id].parent), p.shown(id))
}

// refuses tells why a file's bytes or versions are not told.
func (p plain) refuses(id api.ID) api.Errno {
	switch {
	case !p.live(id):
		return api.ENOENT
	case p.dir(id):
		return api.EISDIR
	}
	return api.OK
}

func sameVersion(a, b api.Version) bool {
	return a.Stamp == b.Stamp && a.Seq == b.Seq && slices.Equal(a.Seen, b.Seen) && bytes.Equal(a.Data, b.Data)
}

// pair is a view and the operations that it took.
type pair struct {
	t    *testing.T
	what string
	view *View
	os   []api.Op
}

func newPair(t *testing.T, what string) *pair {
	return &pair{t: t, what: what, view: New()}
}

// apply applies operations one by one, and holds the answers and Len against the words.
func (p *pair) apply(os ...api.Op) *pair {
	p.t.Helper()
	for _, o := range os {
		why := p.answer(o)
		if e := p.view.Apply(o); e != why {
			p.t.Fatalf("%s: Apply(%.200v) = %d, want %d", p.what, fmt.Sprint(o), e, why)
		}
		if why == api.OK {
			o.Seen, o.Data = slices.Clone(o.Seen), bytes.Clone(o.Data)
			p.os = append(p.os, o)
		}
		if n := p.view.Len(); n != len(p.os) {
			p.t.Fatalf("%s: Len = %d, want %d", p.what, n, len(p.os))
		}
	}
	return p
}

func (p *pair) answer(o api.Op) api.Errno {
	if !ops.May(o) {
		return api.EINVAL
	}
	for _, k := range p.os {
		if k.Stamp == o.Stamp {
			return api.EEXIST
		}
	}
	return api.OK
}

// ids has all that the operations name, there or not, and some that none names.
func (p *pair) ids() []api.ID {
	all := map[api.ID]bool{ops.Root(): true, ops.Trash(): true, at(99): true, {Time: -1}: true, {Node: 2}: true}
	for _, o := range p.os {
		all[o.Stamp], all[o.Obj], all[o.Parent] = true, true, true
	}
	var ids []api.ID
	for id := range all {
		ids = append(ids, id)
	}
	sort.Slice(ids, func(i, j int) bool { return plainLess(ids[i], ids[j]) })
	return ids
}

// want holds all that the view answers against the words.
func (p *pair) want() *pair {
	p.t.Helper()
	want := plainOf(p.os)
	for _, id := range p.ids() {
		p.wantOne(want, id)
		for _, other := range p.ids() {
			if below := want.below(id, other); p.view.Below(id, other) != below {
				p.t.Fatalf("%s: Below(%v, %v) = %v, of %v", p.what, id, other, !below, p.os)
			}
		}
	}
	return p
}

func (p *pair) wantOne(want plain, id api.ID) {
	p.t.Helper()
	p.wantPlace(want, id)
	p.wantList(want, id)
	p.wantBytes(want, id)
}

func (p *pair) wantPlace(want plain, id api.ID) {
	p.t.Helper()
	live, s := want.live(id), want.there[id]
	if p.view.Live(id) != live {
		p.t.Fatalf("%s: Live(%v) = %v, of %v", p.what, id, !live, p.os)
	}
	_, there := want.there[id]
	if parent, name, ok := p.view.Where(id); parent != s.parent || name != s.name || ok != there {
		p.t.Fatalf("%s: Where(%v) = %v, %q, %v, want %v, %q, %v, of %v", p.what, id, parent, name, ok, s.parent, s.name, there, p.os)
	}
	path, ok := p.view.Path(id)
	var names []string
	if live {
		names = want.path(id)
	}
	if ok != live || !slices.Equal(path, names) {
		p.t.Fatalf("%s: Path(%v) = %q, %v, want %q, %v, of %v", p.what, id, path, ok, names, live, p.os)
	}
	if to, e := p.view.Walk(path); live && (to != id || e != api.OK) {
		p.t.Fatalf("%s: Walk(%q) = %v, %d, want %v, of %v", p.what, path, to, e, id, p.os)
	}
	p.wantWalk(want, slices.Concat(path, []string{s.name}))
	if there && len(names) > 0 {
		p.wantWalk(want, append(slices.Clone(names[:len(names)-1]), s.name))
		p.wantWalk(want, append(slices.Clone(names[:len(names)-1]), fmt.Sprintf("%s\x01%d.%d", s.name, id.Time, id.Node)))
	}
}

func (p *pair) wantWalk(want plain, path []string) {
	p.t.Helper()
	id, e := p.view.Walk(path)
	if to, why := want.walk(path); id != to || e != why {
		p.t.Fatalf("%s: Walk(%q) = %v, %d, want %v, %d, of %v", p.what, path, id, e, to, why, p.os)
	}
}

func (p *pair) wantList(want plain, id api.ID) {
	p.t.Helper()
	list, e := p.view.List(id)
	if all, why := want.list(id); !slices.Equal(list, all) || e != why {
		p.t.Fatalf("%s: List(%v) = %v, %d, want %v, %d, of %v", p.what, id, list, e, all, why, p.os)
	}
	for i := range list {
		if i > 0 && list[i-1].Name >= list[i].Name {
			p.t.Fatalf("%s: List(%v) shows %q and then %q", p.what, id, list[i-1].Name, list[i].Name)
		}
	}
}

func (p *pair) wantBytes(want plain, id api.ID) {
	p.t.Helper()
	why := want.refuses(id)
	var stat api.Stat
	var heads []api.Version
	var value []byte
	switch why {
	case api.EISDIR:
		stat = api.Stat{Obj: id, Dir: true}
	case api.OK:
		heads, value = want.heads(id), want.value(id)
		stat = api.Stat{Obj: id, Size: len(value), Heads: len(heads)}
	}
	if b, e := p.view.Read(id); e != why || !bytes.Equal(b, value) {
		p.t.Fatalf("%s: Read(%v) = %.99q, %d, want %.99q, %d, of %v", p.what, id, b, e, value, why, p.os)
	}
	if vs, e := p.view.Heads(id); e != why || !slices.EqualFunc(vs, heads, sameVersion) {
		p.t.Fatalf("%s: Heads(%v) = %v, %d, want %v, %d, of %v", p.what, id, vs, e, heads, why, p.os)
	}
	if why == api.EISDIR {
		why = api.OK
	}
	if s, e := p.view.Stat(id); s != stat || e != why {
		p.t.Fatalf("%s: Stat(%v) = %v, %d, want %v, %d, of %v", p.what, id, s, e, stat, why, p.os)
	}
}

// The operations of a test. The view does not ask how a node counts its own, so most are their nodes' first ones.

func id(time int64, node int) api.ID { return api.ID{Time: time, Node: node} }

// at gives the stamp of a time, of the node 0.
func at(time int64) api.ID { return id(time, 0) }

func dir(stamp, parent api.ID, name string) api.Op {
	return api.Op{Stamp: stamp, Seq: 1, Kind: api.KDir, Obj: stamp, Parent: parent, Name: name}
}

func file(stamp, parent api.ID, name string) api.Op {
	return api.Op{Stamp: stamp, Seq: 1, Kind: api.KFile, Obj: stamp, Parent: parent, Name: name}
}

func move(stamp, obj, parent api.ID, name string) api.Op {
	return api.Op{Stamp: stamp, Seq: 1, Kind: api.KMove, Obj: obj, Parent: parent, Name: name}
}

// write writes to the object, having seen so much.
func write(stamp, obj api.ID, data string, seen ...int64) api.Op {
	return api.Op{Stamp: stamp, Seq: plainAt(seen, stamp.Node) + 1, Kind: api.KWrite, Obj: obj, Data: []byte(data), Seen: seen}
}

// The objects of base.
var a, b, c, f, d = at(1), at(2), at(3), at(4), at(5)

// base makes a(b(c()) f) d(), and f holds "text".
func base() []api.Op {
	return []api.Op{dir(a, ops.Root(), "a"), dir(b, a, "b"), dir(c, b, "c"), file(f, a, "f"), dir(d, ops.Root(), "d"), write(at(6), f, "text")}
}

// shape tells what is shown below a directory, in its order: what is below a directory in brackets, what is in a file behind a =.
func shape(v *View, id api.ID) string {
	var all []string
	list, _ := v.List(id)
	for _, e := range list {
		text := strings.ReplaceAll(e.Name, "\x01", "~")
		if e.Dir {
			text += "(" + shape(v, e.Obj) + ")"
		} else if b, _ := v.Read(e.Obj); len(b) > 0 {
			text += "=" + string(b)
		}
		all = append(all, text)
	}
	return strings.Join(all, " ")
}

// wantShape holds the view against what is below the root.
func wantShape(t *testing.T, what string, v *View, want string) {
	t.Helper()
	if got := shape(v, ops.Root()); got != want {
		t.Errorf("%s: %s, want %s", what, got, want)
	}
}

const plainShape = "a(b(c()) f=text) d()"

// noise gives numbers that hang on where it began alone.
type noise uint64

func (n *noise) below(limit int) int {
	*n = *n*6364136223846793005 + 1442695040888963407
	return int(*n>>33) % limit
}

// shuffled gives the operations in some order.
func (n *noise) shuffled(os []api.Op) []api.Op {
	os = slices.Clone(os)
	for i := range os {
		j := i + n.below(len(os)-i)
		os[i], os[j] = os[j], os[i]
	}
	return os
}

// orders gives each order of the operations.
func orders(os []api.Op) [][]api.Op {
	if len(os) == 0 {
		return [][]api.Op{nil}
	}
	var all [][]api.Op
	for _, rest := range orders(os[1:]) {
		for i := range len(rest) + 1 {
			all = append(all, slices.Insert(slices.Clone(rest), i, os[0]))
		}
	}
	return all
}

// some are orders of many operations: by rising stamps, by falling ones, and such as they come.
func some(os []api.Op) [][]api.Op {
	rising := byStamp(os)
	falling := slices.Clone(rising)
	slices.Reverse(falling)
	all := [][]api.Op{rising, falling}
	n := noise(len(os))
	for range 10 {
		all = append(all, n.shuffled(os))
	}
	return all
}
