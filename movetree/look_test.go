package movetree

import (
	"slices"
	"testing"

	"lagoon/api"
	"lagoon/ops"
)

// said is what the tree answers of one object.
type said struct {
	has, dir, live bool
	parent         api.ID
	name           string
	placed         bool
	kids           []api.ID
}

func wantSaid(t *testing.T, what string, tree *Tree, id api.ID, want said) {
	t.Helper()
	if has, dir, live := tree.Has(id), tree.Dir(id), tree.Live(id); has != want.has || dir != want.dir || live != want.live {
		t.Errorf("%s: Has %v, Dir %v, Live %v; want %v, %v, %v", what, has, dir, live, want.has, want.dir, want.live)
	}
	if parent, name, ok := tree.Parent(id); parent != want.parent || name != want.name || ok != want.placed {
		t.Errorf("%s: Parent = %v, %q, %v; want %v, %q, %v", what, parent, name, ok, want.parent, want.name, want.placed)
	}
	if kids := tree.Kids(id); !slices.Equal(kids, want.kids) {
		t.Errorf("%s: Kids = %v, want %v", what, kids, want.kids)
	}
	if tree.Below(id, id) {
		t.Errorf("%s is below itself", what)
	}
}

func TestEmptyTree(t *testing.T) { // P15.1, P15.2
	tree := New()
	if tree == nil {
		t.Fatal("New gives none")
	}
	wantSaid(t, "the root", tree, ops.Root(), said{has: true, dir: true, live: true})
	wantSaid(t, "the trash", tree, ops.Trash(), said{has: true, dir: true})
	wantSaid(t, "what is not there", tree, at(1), said{})
	newPair(t, "an empty tree").want()
	if n, s := tree.Len(), tree.Skipped(); n != 0 || s != 0 {
		t.Errorf("Len %d, Skipped %d", n, s)
	}
}

func TestWhatIsSaid(t *testing.T) { // P15.1, P15.2
	root, trash := ops.Root(), ops.Trash()
	p := newPair(t, "a tree").apply(base()...).apply(move(at(10), b, trash, "gone"), file(at(11), d, "g"), write(at(12), f, "x"), dir(at(13), f, "none"))
	wantSaid(t, "the root", p.tree, root, said{has: true, dir: true, live: true, kids: []api.ID{a, d}})
	wantSaid(t, "the trash", p.tree, trash, said{has: true, dir: true, kids: []api.ID{b}})
	wantSaid(t, "a directory", p.tree, a, said{has: true, dir: true, live: true, parent: root, name: "a", placed: true, kids: []api.ID{f}})
	wantSaid(t, "a file", p.tree, f, said{has: true, live: true, parent: a, name: "f", placed: true})
	wantSaid(t, "a directory in the trash", p.tree, b, said{has: true, dir: true, parent: trash, name: "gone", placed: true, kids: []api.ID{c}})
	wantSaid(t, "a directory below the trash", p.tree, c, said{has: true, dir: true, parent: b, name: "c", placed: true})
	wantSaid(t, "the stamp of a move", p.tree, at(10), said{})
	wantSaid(t, "the stamp of a write", p.tree, at(12), said{})
	wantSaid(t, "what was not made", p.tree, at(13), said{})
	wantSaid(t, "what no operation speaks of", p.tree, at(99), said{})
	if n, s := p.tree.Len(), p.tree.Skipped(); n != 6 || s != 1 {
		t.Errorf("Len %d, Skipped %d", n, s)
	}
	p.want()
}

func TestBelow(t *testing.T) { // P15.2
	root, trash, none := ops.Root(), ops.Trash(), at(99)
	p := newPair(t, "a tree").apply(base()...).apply(move(at(10), d, trash, "d"), file(at(11), d, "g"))
	g := at(11)
	for _, x := range []struct {
		what string
		a, b api.ID
		want bool
	}{
		{"below its parent", f, a, true},
		{"below its parent's parent", c, a, true},
		{"below the root", a, root, true},
		{"below the root by steps", c, root, true},
		{"in the trash", d, trash, true},
		{"below the trash", g, trash, true},
		{"in the trash, the root", d, root, false},
		{"below the trash, the root", g, root, false},
		{"live, the trash", c, trash, false},
		{"the other way round", a, c, false},
		{"the root and a kid", root, a, false},
		{"the trash and a kid", trash, d, false},
		{"beside it", f, b, false},
		{"itself", b, b, false},
		{"the root and itself", root, root, false},
		{"the trash and itself", trash, trash, false},
		{"the root and the trash", root, trash, false},
		{"the trash and the root", trash, root, false},
		{"what is not there", none, root, false},
		{"what is not there, the trash", none, trash, false},
		{"something and what is not there", c, none, false},
		{"the root and what is not there", root, none, false},
		{"what is not there and itself", none, none, false},
	} {
		if got := p.tree.Below(x.a, x.b); got != x.want {
			t.Errorf("%s: Below(%v, %v) = %v", x.what, x.a, x.b, got)
		}
	}
	p.want()
}

func TestKidsByRisingIDs(t *testing.T) { // P15.2
	os := []api.Op{dir(at(1), ops.Root(), "z")}
	want := []api.ID{}
	for time := int64(2); time < 7; time++ {
		for _, node := range []int{0, 1, 9, 10, 63} {
			os = append(os, file(id(time, node), at(1), string(rune('z'-time))))
			want = append(want, id(time, node))
		}
	}
	n := noise(1)
	for _, order := range some(os) {
		p := newPair(t, "kids").apply(order...)
		if kids := p.tree.Kids(at(1)); !slices.Equal(kids, want) {
			t.Fatalf("Kids = %v, want %v", kids, want)
		}
		// Out of it and in again, in another order than that of their IDs.
		for i, o := range n.shuffled(os[1:]) {
			p.apply(move(at(int64(10+i)), o.Obj, ops.Trash(), "x"))
			p.apply(move(at(int64(100+n.below(100)*40+i)), o.Obj, at(1), "y"))
			if kids := p.tree.Kids(at(1)); !slices.Equal(kids, want) {
				t.Fatalf("Kids behind moves = %v, want %v", kids, want)
			}
		}
		p.want()
	}
}

// All that is below a directory goes into the trash with it, and comes back.
func TestTrashWithAllThatIsBelow(t *testing.T) { // P15.2
	p := newPair(t, "a tree").apply(base()...)
	for i := range 4 {
		p.apply(move(at(int64(10+2*i)), a, ops.Trash(), "x")).want()
		for _, id := range []api.ID{a, b, c, f} {
			if p.tree.Live(id) || !p.tree.Below(id, ops.Trash()) || !p.tree.Has(id) {
				t.Errorf("%v in the trash: Live %v", id, p.tree.Live(id))
			}
		}
		if p.tree.Len() != 5 || !p.tree.Live(d) {
			t.Errorf("Len %d, the other one Live %v", p.tree.Len(), p.tree.Live(d))
		}
		p.apply(move(at(int64(11+2*i)), a, []api.ID{d, ops.Root()}[i%2], "y")).want()
		for _, id := range []api.ID{a, b, c, f} {
			if !p.tree.Live(id) || p.tree.Below(id, ops.Trash()) {
				t.Errorf("%v out of the trash: Live %v", id, p.tree.Live(id))
			}
		}
	}
}

func TestNamesOfObjects(t *testing.T) { // P15.1
	long := ""
	for range 64 {
		long += "n"
	}
	for i, name := range []string{"x", long, "...", " ", "\x02\xff", "a\\b", "é", "." + "a"} {
		stamp := at(int64(10 + i))
		p := newPair(t, name).apply(base()...).apply(dir(stamp, a, name)).want()
		if parent, got, ok := p.tree.Parent(stamp); parent != a || got != name || !ok {
			t.Errorf("Parent = %v, %q, %v; want the name %q", parent, got, ok, name)
		}
		p.apply(move(at(30), f, d, name)).want()
	}
}
