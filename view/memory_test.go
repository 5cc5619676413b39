package view

import (
	"bytes"
	"fmt"
	"slices"
	"testing"

	"lagoon/api"
	"lagoon/ops"
)

// roomy gives the operations with lists that have spare room, which holds something, and a look at all of their memory.
func roomy(os []api.Op) ([]api.Op, func() string) {
	out := slices.Clone(os)
	for i, o := range out {
		data, seen := append(bytes.Clone(o.Data), "spare bytes"...), append(slices.Clone(o.Seen), 3, int64(i), 5)
		out[i].Data, out[i].Seen = data[:len(o.Data)], seen[:len(o.Seen)]
	}
	return out, func() string {
		all := ""
		for _, o := range out {
			all += fmt.Sprintln(o, o.Data[:cap(o.Data)], o.Seen[:cap(o.Seen)])
		}
		return all
	}
}

func spoilBytes(b []byte) {
	b = b[:cap(b)]
	for i := range b {
		b[i] ^= 0xff
	}
}

func spoilVector(v api.Vector) {
	v = v[:cap(v)]
	for i := range v {
		v[i] ^= 0xff
	}
}

func spoilVersions(vs []api.Version) {
	vs = vs[:cap(vs)]
	for i, v := range vs {
		spoilBytes(v.Data)
		spoilVector(v.Seen)
		vs[i] = api.Version{Stamp: at(77), Seq: 7}
	}
}

func spoilNames(names []string) {
	names = names[:cap(names)]
	for i := range names {
		names[i] = "spoiled"
	}
}

func spoilEntries(list []api.Entry) {
	list = list[:cap(list)]
	for i := range list {
		list[i] = api.Entry{Name: "spoiled", Obj: at(77), Dir: true, Size: 7}
	}
}

// full has what has lists of all sorts.
func full() []api.Op {
	return slices.Concat(base(), crowded()[2:4], []api.Op{file(at(8), ops.Root(), "x"), write(id(10, 1), f, "other", 0, 0, 4), write(id(11, 2), f, "third", 0, 0, 6), write(at(12), at(8), "x", 1), move(at(13), b, d, "b")})
}

func TestOperationsAreTheCallersOwn(t *testing.T) { // P0.3
	for _, order := range some(full()) {
		os, memory := roomy(order)
		before := memory()
		p := newPair(t, "a view").apply(os...).want()
		p.apply(os...)
		if memory() != before {
			t.Error("Apply changed what was handed in")
		}
		for _, o := range os {
			spoilBytes(o.Data)
			spoilVector(o.Seen)
		}
		clear(os)
		p.want()
		p.apply(move(at(9), f, d, "late"), write(id(9, 3), f, "early")).want()
	}
}

func TestPathsAreTheCallersOwn(t *testing.T) { // P0.3
	p := newPair(t, "a view").apply(full()...)
	names := path("a", "f", "spare", "more")
	for range 2 {
		if id, e := p.view.Walk(names[:2]); id != f || e != api.OK {
			t.Errorf("Walk = %v, %d", id, e)
		}
		p.view.Walk(names[:3])
		p.view.Walk(path("no", "names"))
		if !slices.Equal(names, path("a", "f", "spare", "more")) {
			t.Errorf("Walk changed what was handed in: %q", names)
		}
	}
	spoilNames(names)
	p.want()
}

func TestAnswersAreNewMemory(t *testing.T) { // P18.4, P0.3
	for _, x := range []struct {
		what  string
		spoil func(v *View, id api.ID)
		say   func(v *View, id api.ID) any
	}{
		{"List", func(v *View, id api.ID) { l, _ := v.List(id); spoilEntries(l) }, func(v *View, id api.ID) any { l, _ := v.List(id); return l }},
		{"Heads", func(v *View, id api.ID) { vs, _ := v.Heads(id); spoilVersions(vs) }, func(v *View, id api.ID) any { vs, _ := v.Heads(id); return vs }},
		{"Read", func(v *View, id api.ID) { b, _ := v.Read(id); spoilBytes(b) }, func(v *View, id api.ID) any { b, _ := v.Read(id); return b }},
		{"Path", func(v *View, id api.ID) { p, _ := v.Path(id); spoilNames(p) }, func(v *View, id api.ID) any { p, _ := v.Path(id); return p }},
	} {
		p := newPair(t, x.what).apply(full()...).want()
		for _, id := range p.ids() {
			other := x.say(p.view, id)
			before := fmt.Sprintf("%q", other)
			x.spoil(p.view, id)
			if after := fmt.Sprintf("%q", other); after != before {
				t.Errorf("%s(%v): writing into one answer changed another one: %s, was %s", x.what, id, after, before)
			}
			p.want()
		}
		// An answer stays as it was, whatever comes then.
		var olds []any
		for _, id := range p.ids() {
			olds = append(olds, x.say(p.view, id))
		}
		before := fmt.Sprintf("%q", olds)
		p.apply(write(id(5, 5), f, "early"), write(at(40), f, "all", 9, 9, 9, 9, 9, 9), move(at(41), d, a, "y"), file(at(42), ops.Root(), "a"), file(id(1, 3), a, "b"), dir(id(3, 3), ops.Root(), "x")).want()
		if after := fmt.Sprintf("%q", olds); after != before {
			t.Errorf("%s: earlier answers are %s, were %s", x.what, after, before)
		}
	}
}

func TestListsOfOneAnswerAreApart(t *testing.T) { // P0.3
	seen, data := api.Vector{0, 0, 0, 0, 9}, []byte("the same bytes")
	p := newPair(t, "a view").apply(file(a, ops.Root(), "f"))
	for node := range 4 {
		o := write(id(10, node), a, "")
		o.Seen, o.Data = seen, data
		p.apply(o)
	}
	heads, e := p.view.Heads(a)
	if len(heads) != 4 || e != api.OK {
		t.Fatalf("%d heads, %d", len(heads), e)
	}
	want := plainOf(p.os).heads(a)
	for i, v := range heads {
		spoilBytes(v.Data)
		spoilVector(v.Seen)
		if !slices.EqualFunc(heads[i+1:], want[i+1:], sameVersion) {
			t.Errorf("writing into version %d changed those behind it", i)
		}
	}
	p.want()
}

// What grows into the spare room of an answer is not to be seen in the next one.
func TestSpareRoom(t *testing.T) { // P0.3
	p := newPair(t, "a view").apply(full()...)
	for _, id := range p.ids() {
		list, _ := p.view.List(id)
		heads, _ := p.view.Heads(id)
		value, _ := p.view.Read(id)
		names, _ := p.view.Path(id)
		_, _, _, _ = append(list, api.Entry{}), append(heads, api.Version{}), append(value, "more"...), append(names, "more")
		for _, v := range heads {
			_, _ = append(v.Data, "more"...), append(v.Seen, 8)
		}
		p.want()
	}
}

func TestNilAndEmptyListsAreTheSame(t *testing.T) { // P0.4
	for _, seen := range []api.Vector{nil, {}, {0}, make(api.Vector, 64)} {
		for _, data := range [][]byte{nil, {}} {
			p := newPair(t, "a view")
			for _, o := range append(base()[:5], write(at(10), f, "")) {
				o.Seen, o.Data = seen, data
				p.apply(o)
			}
			wantShape(t, "a view", p.want().view, "a(b(c()) f) d()")
			for _, names := range [][]string{nil, {}} {
				wantWalked(t, p.view, []walked{{names, ops.Root(), api.OK}})
			}
		}
	}
}

func TestViewsKnowNothingOfEachOther(t *testing.T) { // P0.5
	n := noise(9)
	one, two, none := newPair(t, "one"), newPair(t, "two"), newPair(t, "none")
	other := n.shuffled(full())
	for i, o := range n.shuffled(full()) {
		one.apply(o)
		if i%2 == 0 {
			two.apply(other[i]).want()
		}
		one.want()
		none.want()
	}
	two.apply(dir(at(20), ops.Root(), "of two alone"), write(id(30, 7), f, "of two alone", 9, 9, 9)).want()
	one.apply(file(at(20), ops.Root(), "of one alone"), write(id(30, 7), f, "of one alone", 9, 9, 9)).want()
	two.want()
	none.want()
}
