package movetree

import (
	"fmt"
	"testing"

	"lagoon/api"
	"lagoon/ops"
)

// Each order of few operations, the tree held against the plain one behind each of them.
func TestAllOrders(t *testing.T) { // P15.1, P15.2, What follows
	root, trash := ops.Root(), ops.Trash()
	for i, os := range [][]api.Op{
		{dir(at(1), root, "x"), dir(at(2), root, "y"), move(at(3), at(1), at(2), "u"), move(at(4), at(2), at(1), "v"), file(id(4, 1), at(2), "f")},
		{dir(at(1), root, "x"), dir(at(2), at(1), "y"), dir(at(3), at(2), "z"), move(at(4), at(1), at(3), "ring"), move(id(3, 1), at(3), root, "out")},
		{dir(at(1), root, "x"), file(id(1, 1), at(1), "f"), move(at(2), id(1, 1), trash, "g"), move(at(3), id(1, 1), at(1), "h"), move(id(2, 1), at(1), trash, "w")},
		{dir(at(1), root, "x"), file(at(2), root, "f"), write(at(3), at(2), "data"), move(at(4), at(1), at(2), "in a file"), move(at(5), at(1), at(1), "in itself"), file(at(6), at(2), "none")},
	} {
		what := fmt.Sprint("set ", i)
		want := newPair(t, what).apply(os...).want()
		for _, order := range orders(os) {
			p := newPair(t, what)
			for _, o := range order {
				p.apply(o).want()
			}
			wantShape(t, what, p.tree, shape(want.tree, root)+"|"+shape(want.tree, trash))
		}
	}
}

// Each two moves of all objects to all places, in both orders, ahead of what they move and behind it.
func TestAllPairsOfMoves(t *testing.T) { // P15.1, P15.2, What follows
	places := []api.ID{ops.Root(), ops.Trash(), a, b, c, d, f, at(9)}
	var moves []func(time int64) api.Op
	for _, obj := range places[2:] {
		for _, to := range places {
			moves = append(moves, func(time int64) api.Op { return move(at(time), obj, to, fmt.Sprint(time)) })
		}
	}
	for _, first := range moves {
		for _, second := range moves {
			x, y := first(10), second(11)
			newPair(t, "in order").apply(base()...).apply(x, y).want()
			late := newPair(t, "the later one first").apply(base()...).apply(y)
			late.tree.Len()
			late.apply(x).want()
			early := newPair(t, "ahead of what they move").apply(y, x)
			early.tree.Len()
			early.apply(base()...).want()
		}
	}
}

// crowd gives operations of several nodes, most of them on what is there.
func crowd(n *noise, many int) []api.Op {
	var os []api.Op
	ids := []api.ID{ops.Root(), ops.Trash(), at(1)}
	for i := range many {
		stamp := id(int64(i/3+2), i%3)
		pick := func() api.ID { return ids[n.below(len(ids))] }
		o := move(stamp, pick(), pick(), fmt.Sprint(i))
		switch n.below(8) {
		case 0, 1:
			o = dir(stamp, pick(), o.Name)
		case 2:
			o = file(stamp, pick(), o.Name)
		case 3:
			o = write(stamp, pick(), o.Name)
		}
		if ops.May(o) {
			os = append(os, o)
			ids = append(ids, stamp)
		}
	}
	return os
}

// Many operations in many orders, looked at now and then.
func TestManyOrders(t *testing.T) { // P15.1, P15.2, What follows
	n := noise(7)
	for turn := range 60 {
		what := fmt.Sprint("turn ", turn)
		os := crowd(&n, 10+n.below(50))
		want := newPair(t, what).apply(os...).want()
		for range 4 {
			p := newPair(t, what)
			often := 1 + n.below(6)
			for _, o := range n.shuffled(os) {
				p.apply(o)
				if n.below(often) == 0 {
					p.want()
				}
			}
			p.want()
			wantShape(t, what, p.tree, shape(want.tree, ops.Root())+"|"+shape(want.tree, ops.Trash()))
		}
	}
}

// Two nodes that work apart and then hear of each other, in lumps.
func TestLumps(t *testing.T) { // P15.1, What follows
	n := noise(8)
	for range 30 {
		os := crowd(&n, 60)
		byNode := map[int][]api.Op{}
		for _, o := range os {
			byNode[o.Stamp.Node] = append(byNode[o.Stamp.Node], o)
		}
		p, q := newPair(t, "one"), newPair(t, "other")
		for _, node := range []int{0, 1, 2} {
			p.apply(byNode[node]...).want()
			q.apply(byNode[2-node]...).want()
		}
		wantShape(t, "other", q.tree, shape(p.tree, ops.Root())+"|"+shape(p.tree, ops.Trash()))
		if p.tree.Skipped() != q.tree.Skipped() || p.tree.Len() != q.tree.Len() {
			t.Errorf("Skipped %d and %d, Len %d and %d", p.tree.Skipped(), q.tree.Skipped(), p.tree.Len(), q.tree.Len())
		}
	}
}

// Many operations by falling stamps: a chain of directories, each in the one ahead of it, then a move of the first one below the last one.
func TestLongChain(t *testing.T) { // P15.1, P0.1
	const many = 5000
	tree := New()
	tree.Apply(move(at(many+1), at(1), at(many), "ring"))
	for time := int64(many); time > 0; time-- {
		parent := ops.Root()
		if time > 1 {
			parent = at(time - 1)
		}
		if n, e := tree.Apply(dir(at(time), parent, "d")); n != int(many+1-time) || e != api.OK {
			t.Fatalf("Apply = %d, %d", n, e)
		}
		if time%500 == 0 && tree.Skipped() != int(many+2-time) {
			t.Fatalf("at %d: Skipped = %d", time, tree.Skipped())
		}
	}
	if n, s := tree.Len(), tree.Skipped(); n != many || s != 1 || !tree.Live(at(many)) || !tree.Below(at(many), at(1)) || tree.Below(at(1), at(many)) {
		t.Errorf("Len %d, Skipped %d", n, s)
	}
	if n, e := tree.Apply(move(id(many/2, 1), at(many/2), ops.Trash(), "cut")); n != many/2+1 || e != api.OK {
		t.Errorf("Apply = %d, %d", n, e)
	}
	if s := tree.Skipped(); s != 0 || !tree.Below(at(1), at(many)) || tree.Live(at(1)) || !tree.Below(at(many/2-1), ops.Trash()) {
		t.Errorf("behind the cut: Skipped %d", s)
	}
}

// A directory of many kids, which come by falling stamps and are asked for now and then.
func TestWideDirectory(t *testing.T) { // P15.2, P0.1
	const many = 5000
	tree := New()
	for time := int64(many); time > 0; time-- {
		tree.Apply(file(at(time), ops.Root(), "f"))
		if kids := int(many + 1 - time); time%500 == 0 && (len(tree.Kids(ops.Root())) != kids || tree.Len() != kids) {
			t.Fatalf("%d kids, Len %d; want %d", len(tree.Kids(ops.Root())), tree.Len(), kids)
		}
	}
	for i, kid := range tree.Kids(ops.Root()) {
		if kid != at(int64(i+1)) {
			t.Fatalf("kid %d is %v", i, kid)
		}
	}
}
