package view

import (
	"fmt"
	"slices"
	"testing"

	"lagoon/api"
	"lagoon/ops"
)

// crowd gives operations of several nodes with few names, most of them on what is there.
func crowd(n *noise, many int) []api.Op {
	var os []api.Op
	ids := []api.ID{ops.Root(), ops.Root(), ops.Trash(), at(1)}
	for i := range many {
		stamp := id(int64(i/3+2), i%3)
		pick := func() api.ID { return ids[n.below(len(ids))] }
		name := string(rune('a' + n.below(3)))
		o := move(stamp, pick(), pick(), name)
		switch n.below(10) {
		case 0, 1, 2:
			o = dir(stamp, pick(), name)
		case 3, 4:
			o = file(stamp, pick(), name)
		case 5, 6, 7:
			var seen []int64
			for range n.below(4) {
				seen = append(seen, int64(n.below(3)))
			}
			o = write(stamp, pick(), fmt.Sprint("data ", i)[:n.below(6)], seen...)
		}
		if ops.May(o) {
			os = append(os, o)
			ids = append(ids, stamp)
		}
	}
	return os
}

// answers has all that a view answers of the objects.
func answers(v *View, ids []api.ID) string {
	all := fmt.Sprintln(v.Len())
	for _, id := range ids {
		all += fmt.Sprintln(id)
		all += fmt.Sprintln(v.List(id))
		all += fmt.Sprintln(v.Stat(id))
		all += fmt.Sprintln(v.Read(id))
		all += fmt.Sprintln(v.Heads(id))
		all += fmt.Sprintln(v.Path(id))
		all += fmt.Sprintln(v.Where(id))
		all += fmt.Sprintln(v.Live(id))
		p, _ := v.Path(id)
		all += fmt.Sprintln(v.Walk(p))
		for _, other := range ids {
			all += fmt.Sprintln(v.Below(id, other))
		}
	}
	return all
}

// wantSound holds what follows from the promises: what is shown is apart, and Walk of Path is the object.
func wantSound(t *testing.T, p *pair) {
	t.Helper()
	for _, id := range p.ids() {
		met := map[string]bool{}
		list, _ := p.view.List(id)
		for _, e := range list {
			if met[e.Name] {
				t.Fatalf("List(%v) shows %q twice, of %v", id, e.Name, p.os)
			}
			met[e.Name] = true
		}
		path, ok := p.view.Path(id)
		if to, e := p.view.Walk(path); ok && (to != id || e != api.OK) {
			t.Fatalf("Walk(%q) = %v, %d, want %v, of %v", path, to, e, id, p.os)
		}
	}
}

// Views of the same operations answer alike in whatever order these came, and whenever they were looked at.
func TestManyOrders(t *testing.T) { // P18.1, P18.2, P18.3, What follows
	n := noise(18)
	for turn := range 40 {
		what := fmt.Sprint("turn ", turn)
		os := crowd(&n, 10+n.below(40))
		first := newPair(t, what).apply(os...).want()
		wantSound(t, first)
		want := answers(first.view, first.ids())
		for range 4 {
			p := newPair(t, what)
			often := 1 + n.below(12)
			for _, o := range n.shuffled(os) {
				p.apply(o)
				if n.below(often) == 0 {
					p.want()
				}
			}
			wantSound(t, p.want())
			if got := answers(p.view, first.ids()); got != want {
				t.Fatalf("%s: another order answers otherwise, of %v", what, os)
			}
		}
	}
}

// Two nodes that work apart and then hear of each other, in lumps, and hear of much twice.
func TestLumps(t *testing.T) { // P18.1, What follows
	n := noise(5)
	for range 15 {
		byNode := map[int][]api.Op{}
		for _, o := range crowd(&n, 60) {
			byNode[o.Stamp.Node] = append(byNode[o.Stamp.Node], o)
		}
		p, q := newPair(t, "one"), newPair(t, "other")
		for _, node := range []int{0, 1, 0, 2, 1} {
			p.apply(byNode[node]...).want()
			q.apply(byNode[2-node]...).want()
		}
		q.apply(byNode[0]...)
		p.apply(byNode[2]...)
		if answers(p.view, p.ids()) != answers(q.want().view, p.ids()) {
			t.Fatalf("views of the same operations answer otherwise: %v", p.os)
		}
		wantSound(t, q)
	}
}

// What is asked changes nothing: the same is answered again.
func TestAskingChangesNothing(t *testing.T) { // P0.5
	n := noise(6)
	for range 20 {
		p := newPair(t, "a view").apply(n.shuffled(crowd(&n, 40))...)
		ids := p.ids()
		first := answers(p.view, ids)
		slices.Reverse(ids)
		answers(p.view, ids)
		slices.Reverse(ids)
		if answers(p.view, ids) != first {
			t.Fatalf("asked again, it answers otherwise: %v", p.os)
		}
	}
}
