package movetree

import (
	"fmt"
	"testing"

	"lagoon/api"
	"lagoon/ops"
)

// came is an operation, and what holds behind it.
type came struct {
	o            api.Op
	len, skipped int
	want         string
}

func wantCame(t *testing.T, what string, all []came) {
	t.Helper()
	p := newPair(t, what)
	for i, x := range all {
		p.apply(x.o)
		if n, s := p.tree.Len(), p.tree.Skipped(); n != x.len || s != x.skipped {
			t.Errorf("%s, behind %d: Len %d, Skipped %d; want %d, %d", what, i, n, s, x.len, x.skipped)
		}
		wantShape(t, fmt.Sprint(what, ", behind ", i), p.tree, x.want)
		p.want()
	}
}

// What comes late makes others do something.
func TestLateOperationsThatHelp(t *testing.T) { // P15.1, P15.2
	root := ops.Root()
	wantCame(t, "the last ones first", []came{
		{move(at(40), at(30), root, "g"), 0, 1, "|"},
		{file(at(30), at(20), "f"), 0, 2, "|"},
		{write(at(35), at(30), "x"), 0, 2, "|"},
		{dir(at(20), at(10), "y"), 0, 3, "|"},
		{dir(at(10), root, "x"), 3, 0, "x(y()) g|"},
	})
	wantCame(t, "a way out of a ring", []came{
		{dir(at(1), root, "x"), 1, 0, "x()|"},
		{dir(at(2), at(1), "y"), 2, 0, "x(y())|"},
		{move(at(20), at(1), at(2), "z"), 2, 1, "x(y())|"},
		{move(at(10), at(2), root, "y"), 2, 0, "y(z())|"},
	})
}

// What comes late leaves others nothing to do.
func TestLateOperationsThatHinder(t *testing.T) { // P15.1, P15.2
	root, trash := ops.Root(), ops.Trash()
	wantCame(t, "a ring", []came{
		{dir(at(1), root, "x"), 1, 0, "x()|"},
		{dir(at(2), root, "y"), 2, 0, "x() y()|"},
		{move(at(20), at(1), at(2), "u"), 2, 0, "y(u())|"},
		{file(at(30), at(1), "f"), 3, 0, "y(u(f))|"},
		{move(at(10), at(2), at(1), "v"), 3, 1, "x(v() f)|"},
		{move(at(5), at(2), at(1), "w"), 3, 1, "x(v() f)|"},
		{move(at(15), at(2), trash, "t"), 3, 0, "|t(u(f))"},
	})
	wantCame(t, "a move ahead of a move", []came{
		{dir(at(1), root, "x"), 1, 0, "x()|"},
		{move(at(20), at(1), root, "late"), 1, 0, "late()|"},
		{move(at(10), at(1), trash, "early"), 1, 0, "late()|"},
		{move(at(30), at(1), trash, "last"), 1, 0, "|last()"},
	})
}

// Done in one order of coming the one move does nothing, in the other order the other one; then both have come.
func TestMovesThatHangOnEachOther(t *testing.T) { // P15.1
	x, y := move(at(10), a, d, "x"), move(at(11), d, a, "y")
	first := newPair(t, "the earlier one first").apply(base()...).apply(x).want()
	wantShape(t, "the earlier one", first.tree, "d(x(b(c()) f))|")
	second := newPair(t, "the later one first").apply(base()...).apply(y).want()
	wantShape(t, "the later one", second.tree, "a(b(c()) f y())|")
	for _, p := range []*pair{first.apply(y), second.apply(x)} {
		wantShape(t, "both", p.want().tree, "d(x(b(c()) f))|")
		if s := p.tree.Skipped(); s != 1 {
			t.Errorf("Skipped = %d", s)
		}
	}
}

// questions ask the tree by one method alone.
func questions() map[string]func(tree *Tree, ids []api.ID) string {
	each := func(ask func(tree *Tree, id api.ID) string) func(*Tree, []api.ID) string {
		return func(tree *Tree, ids []api.ID) string {
			all := ""
			for _, id := range ids {
				all += ask(tree, id) + ";"
			}
			return all
		}
	}
	return map[string]func(tree *Tree, ids []api.ID) string{
		"Has":     each(func(tree *Tree, id api.ID) string { return fmt.Sprint(tree.Has(id)) }),
		"Dir":     each(func(tree *Tree, id api.ID) string { return fmt.Sprint(tree.Dir(id)) }),
		"Parent":  each(func(tree *Tree, id api.ID) string { return fmt.Sprint(tree.Parent(id)) }),
		"Live":    each(func(tree *Tree, id api.ID) string { return fmt.Sprint(tree.Live(id)) }),
		"Below":   each(func(tree *Tree, id api.ID) string { return fmt.Sprint(tree.Below(id, a), tree.Below(f, id)) }),
		"Kids":    each(func(tree *Tree, id api.ID) string { return fmt.Sprint(tree.Kids(id)) }),
		"Len":     func(tree *Tree, ids []api.ID) string { return fmt.Sprint(tree.Len()) },
		"Skipped": func(tree *Tree, ids []api.ID) string { return fmt.Sprint(tree.Skipped()) },
	}
}

// Each method tells of what came late, also if it is the first one, or the only one, that is asked behind an Apply.
func TestEachMethodTellsOfWhatCameLate(t *testing.T) { // P15.1, P15.2
	os := append(base(), move(at(10), a, d, "x"), move(at(11), d, c, "y"), move(at(12), f, ops.Trash(), "z"), write(at(13), f, "w"), dir(at(14), f, "v"))
	ids := []api.ID{ops.Root(), ops.Trash(), a, b, c, d, f, at(10), at(14), at(99)}
	for what, ask := range questions() {
		for _, order := range some(os) {
			asked := New()
			for i, o := range order {
				asked.Apply(o)
				anew := newPair(t, what).apply(order[:i+1]...).want()
				if got, want := ask(asked, ids), ask(anew.tree, ids); got != want {
					t.Fatalf("%s behind %d = %s, want %s", what, i, got, want)
				}
			}
		}
	}
}
